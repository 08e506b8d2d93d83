package chance

import (
	"fmt"
	"math"
	"math/big"
	"math/rand"
	"slices"
	"strconv"
	"testing"
)

var (
	below0 = math.Copysign(0, -1)
	inf    = math.Inf(1)
	tiny   = math.SmallestNonzeroFloat64
	under1 = math.Nextafter(1, 0)
	above1 = math.Nextafter(1, 2)
)

// noNumbers: quiet ones and others, of both signs.
func noNumbers() []float64 {
	var l []float64
	for _, bits := range []uint64{0x7ff8000000000001, 0x7ff8000000000000, 0x7ff0000000000001, 0xfff8000000000000, 0x7fffffffffffffff, 0xffffffffffffffff, 0xfff0000000000001} {
		l = append(l, math.Float64frombits(bits))
	}
	return l
}

// inOrder: numbers and the two without end, the least first, each once.
func inOrder() []float64 {
	return []float64{-inf, -math.MaxFloat64, -2, -above1, -1, -under1, -0.5, -0x1p-1022, -tiny, below0,
		0, tiny, 2 * tiny, 0x1p-1022, 0x1p-53, 0.1, 0.25, 1.0 / 3, math.Nextafter(0.5, 0), 0.5, math.Nextafter(0.5, 1), under1, 1, above1, 2, 1e300, math.MaxFloat64, inf}
}

func edges() []float64 { return append(inOrder(), noNumbers()...) }

func anyNumbers(n int) []float64 {
	r := rand.New(rand.NewSource(5))
	l := edges()
	for range n {
		l = append(l, math.Float64frombits(r.Uint64()), r.Float64(), r.NormFloat64())
	}
	return l
}

func anyDraws(n int) []uint64 {
	r := rand.New(rand.NewSource(6))
	l := []uint64{0, 1, 2047, 2048, 2049, 4095, 4096, 1<<63 - 1, 1 << 63, 1<<63 + 2048, math.MaxUint64 - 2048, math.MaxUint64 - 2047, math.MaxUint64}
	for range n {
		l = append(l, r.Uint64()>>r.Intn(64))
	}
	return l
}

// same: alike bit by bit, or both no numbers.
func same(a, b float64) bool {
	return math.Float64bits(a) == math.Float64bits(b) || math.IsNaN(a) && math.IsNaN(b)
}

func TestAdmitExamples(t *testing.T) {
	if !Admit(0.5, 1<<63-1) || Admit(0.5, 1<<63) {
		t.Errorf("P4.1: Admit(0.5, ..): %v, %v", Admit(0.5, 1<<63-1), Admit(0.5, 1<<63))
	}
}

func TestAdmitNeverAndAlways(t *testing.T) {
	for _, p := range append(noNumbers(), -inf, -math.MaxFloat64, -1, -tiny, below0, 0) {
		for _, draw := range anyDraws(50) {
			if Admit(p, draw) {
				t.Errorf("P4.1: Admit(%v, %x) lets in", p, draw)
			}
		}
	}
	for _, p := range []float64{1, above1, 2, math.MaxFloat64, inf} {
		for _, draw := range anyDraws(50) {
			if !Admit(p, draw) {
				t.Errorf("P4.1: Admit(%v, %x) doesn't let in", p, draw)
			}
		}
	}
	for _, x := range []struct {
		p    float64
		draw uint64
		want bool
	}{{tiny, 2047, true}, {tiny, 2048, false}, {under1, math.MaxUint64 - 2048, true}, {under1, math.MaxUint64 - 2047, false}, {under1, math.MaxUint64, false}} {
		if got := Admit(x.p, x.draw); got != x.want {
			t.Errorf("P4.1: Admit(%v, %x) is %v", x.p, x.draw, got)
		}
	}
}

func TestAdmitAsTheChapterSays(t *testing.T) {
	for _, p := range anyNumbers(300) {
		if !(p > 0 && p < 1) {
			continue
		}
		for _, draw := range anyDraws(100) {
			part := new(big.Rat).SetFrac(new(big.Int).SetUint64(draw/2048), big.NewInt(1<<53))
			want := part.Cmp(new(big.Rat).SetFloat64(p)) < 0
			if got := Admit(p, draw); got != want {
				t.Fatalf("P4.1: Admit(%v, %x) is %v", p, draw, got)
			}
		}
	}
}

func TestAdmitMoreByAGreaterChance(t *testing.T) {
	ps := slices.DeleteFunc(anyNumbers(100), math.IsNaN)
	slices.Sort(ps)
	for _, draw := range anyDraws(200) {
		let := false
		for _, p := range ps {
			is := Admit(p, draw)
			if let && !is {
				t.Fatalf("P4.2: %x is let in by less than %v, but not by it", draw, p)
			}
			let = is
		}
	}
}

func TestAdmitJustAsMany(t *testing.T) {
	r := rand.New(rand.NewSource(7))
	counts := []uint64{0, 1, 2, 3, 1 << 20, 1<<52 - 1, 1 << 52, 1<<52 + 1, 1<<53 - 2, 1<<53 - 1, 1 << 53}
	for range 500 {
		counts = append(counts, r.Uint64()>>11)
	}
	// Of the draws' 2^53 kinds those below k are let in, and none from k on.
	for _, k := range counts {
		p := float64(k) / (1 << 53)
		if k > 0 && (!Admit(p, 0) || !Admit(p, k<<11-1) || !Admit(p, (k-1)<<11)) {
			t.Errorf("P4.2: less than %d by 2^53 are let in", k)
		}
		if k < 1<<53 && (Admit(p, k<<11) || Admit(p, k<<11+2047) || Admit(p, math.MaxUint64)) {
			t.Errorf("P4.2: more than %d by 2^53 are let in", k)
		}
	}
}

func TestRatio(t *testing.T) {
	if got := Ratio(0, 0); !math.IsNaN(got) {
		t.Errorf("P4.1: Ratio(0, 0) is %v", got)
	}
	whole := anyDraws(150)
	whole = append(whole, 3, 10, 1<<53, 1<<53+1, 1<<53+3, 1<<54+2, 1<<54+6)
	for _, a := range whole {
		for _, b := range whole {
			if a == 0 && b == 0 {
				continue
			}
			want := inf
			if b != 0 {
				want, _ = new(big.Rat).Quo(nearest(a), nearest(b)).Float64()
			}
			if got := Ratio(a, b); !same(got, want) {
				t.Fatalf("P4.1: Ratio(%d, %d) is %v, not %v", a, b, got, want)
			}
		}
	}
}

// nearest: a whole number as the nearest one with a point.
func nearest(a uint64) *big.Rat {
	x, _ := new(big.Float).SetPrec(53).SetInt(new(big.Int).SetUint64(a)).Rat(nil)
	return x
}

func TestClamp(t *testing.T) {
	for _, x := range anyNumbers(300) {
		want := x
		switch {
		case math.IsNaN(x) || x <= 0:
			want = 0
		case x > 1:
			want = 1
		}
		if got := Clamp(x); !same(got, want) {
			t.Errorf("P4.1: Clamp(%v) is %v", x, got)
		}
	}
}

func TestOrderAsTheChapterSays(t *testing.T) {
	l := inOrder()
	for i, a := range l {
		for j, b := range l {
			want := 0
			switch {
			case i < j:
				want = -1
			case i > j:
				want = 1
			}
			if got := Order(a, b); got != want {
				t.Errorf("P4.1: Order(%v, %v) is %d", a, b, got)
			}
		}
		for _, none := range noNumbers() {
			if Order(a, none) != -1 || Order(none, a) != 1 {
				t.Errorf("P4.1: no number isn't above %v", a)
			}
		}
	}
	for _, a := range noNumbers() {
		for _, b := range noNumbers() {
			if got := Order(a, b); got != 0 {
				t.Errorf("P4.1: of two that are no numbers: %d", got)
			}
		}
	}
}

func TestOrderIsOne(t *testing.T) {
	l := anyNumbers(30)
	for _, a := range l {
		if Order(a, a) != 0 {
			t.Fatalf("P4.3: %v and itself: %d", a, Order(a, a))
		}
		for _, b := range l {
			ab := Order(a, b)
			if ab != -Order(b, a) {
				t.Fatalf("P4.3: %v, %v both ways: %d, %d", a, b, ab, Order(b, a))
			}
			if (ab == 0) != same(a, b) {
				t.Fatalf("P4.3: %v, %v are alike, or not: %d", a, b, ab)
			}
			if a < b && ab != -1 {
				t.Fatalf("P4.3: %v is less than %v: %d", a, b, ab)
			}
			for _, c := range l {
				if ab <= 0 && Order(b, c) <= 0 && Order(a, c) > 0 {
					t.Fatalf("P4.3: through three: %v, %v, %v", a, b, c)
				}
			}
		}
	}
}

// step: what a and b give, brought to the nearest number by itself.
func step(do func(z, a, b *big.Rat) *big.Rat, a, b float64) float64 {
	x, _ := do(new(big.Rat), new(big.Rat).SetFloat64(a), new(big.Rat).SetFloat64(b)).Float64()
	return x
}

func plainBlend(old, now, by float64) float64 {
	o, n, b := Clamp(old), Clamp(now), Clamp(by)
	part := step((*big.Rat).Mul, b, step((*big.Rat).Sub, n, o))
	return Clamp(step((*big.Rat).Add, o, part))
}

func TestBlend(t *testing.T) {
	for _, x := range []struct{ old, now, by, want float64 }{
		{0, 1, 0.5, 0.5}, {1, 0, 0.5, 0.5}, {0.25, 0.75, 0, 0.25}, {0.25, 0.75, 1, 0.75}, {math.NaN(), inf, 1, 1}, {-inf, 2, 0.25, 0.25}, {0.5, math.NaN(), 1, 0}, {0.5, 0, math.NaN(), 0.5}, {below0, below0, below0, 0}, {1, 1, inf, 1},
	} {
		if got := Blend(x.old, x.now, x.by); !same(got, x.want) {
			t.Errorf("P4.1: Blend(%v, %v, %v) is %v", x.old, x.now, x.by, got)
		}
	}
	l := edges()
	for _, old := range l {
		for _, now := range l {
			for _, by := range l {
				if got, want := Blend(old, now, by), plainBlend(old, now, by); !same(got, want) {
					t.Fatalf("P4.1: Blend(%v, %v, %v) is %v, not %v", old, now, by, got, want)
				}
			}
		}
	}
	r := rand.New(rand.NewSource(8))
	fused := 0
	for range 20000 {
		old, now, by := r.Float64(), r.Float64(), r.Float64()
		got, want := Blend(old, now, by), plainBlend(old, now, by)
		if !same(got, want) {
			t.Fatalf("P4.1: Blend(%v, %v, %v) is %v, not %v", old, now, by, got, want)
		}
		if !same(want, Clamp(math.FMA(by, now-old, old))) {
			fused++
		}
	}
	if fused == 0 {
		t.Errorf("P4.1: no input tells product and sum by themselves from both at once")
	}
}

func TestText(t *testing.T) {
	if got := Text(1); got != "3ff0000000000000" {
		t.Errorf("P4.1: Text(1) is %s", got)
	}
	for _, x := range anyNumbers(500) {
		want := fmt.Sprintf("%016x", math.Float64bits(x))
		switch {
		case math.IsNaN(x):
			want = "none"
		case x == inf:
			want = "all"
		case x == -inf:
			want = "-all"
		}
		if got := Text(x); got != want {
			t.Errorf("P4.1: Text(%v) is %s, not %s", x, got, want)
		}
	}
}

func TestParseBack(t *testing.T) {
	for _, x := range anyNumbers(500) {
		got, is := Parse(Text(x))
		if !is || !same(got, x) {
			t.Errorf("P4.1: %v comes back as %v, %v", x, got, is)
		}
	}
	if got, is := Parse("none"); math.Float64bits(got) != 0x7ff8000000000001 || !is {
		t.Errorf("P4.1: Parse(none) is %x, %v", math.Float64bits(got), is)
	}
	if got, is := Parse("8000000000000000"); math.Float64bits(got) != 1<<63 || !is {
		t.Errorf("P4.1: the 0 below 0 comes back as %v, %v", got, is)
	}
}

func TestParseOfWrongTexts(t *testing.T) {
	wrong := []string{"", "0", "None", "NONE", " none", "none ", "All", "+all", "--all", "-none", "ALL", "nan", "inf", "1",
		"000000000000000", "00000000000000000", "3ff000000000000", "3ff00000000000000", "3FF0000000000000", "3Ff0000000000000", "3ff000000000000g", "3ff000000000000G",
		"0x3ff00000000000", "-3ff000000000000", "+3ff000000000000", "3ff0_00000000000", " 3ff000000000000", "3ff000000000000 ", "3ff000000000000\x00", "3ff00000000000é",
		"7ff0000000000000", "fff0000000000000", "7ff8000000000001", "7ff8000000000000", "7ff0000000000001", "ffffffffffffffff", "7fffffffffffffff"}
	for _, s := range wrong {
		if got, is := Parse(s); math.Float64bits(got) != 0 || is {
			t.Errorf("P4.1: Parse(%q) is %v, %v", s, got, is)
		}
	}
	// One byte of a right text at a time is made any other one.
	for i := range 16 {
		for b := range 256 {
			s := []byte("3fe5555555555555")
			s[i] = byte(b)
			digit := b >= '0' && b <= '9' || b >= 'a' && b <= 'f'
			got, is := Parse(string(s))
			if is != digit {
				t.Fatalf("P4.1: Parse(%q) is %v, %v", s, got, is)
			}
			if bits, _ := strconv.ParseUint(string(s), 16, 64); is && math.Float64bits(got) != bits || !is && got != 0 {
				t.Fatalf("P4.1: Parse(%q) is %v", s, got)
			}
		}
	}
}
