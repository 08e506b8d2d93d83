package mix

import (
	"math/rand"
	"strings"
	"testing"
)

const greatest = ^uint64(0)

// plain says Mix as the chapter's words do, without any table.
func plain(x uint64) uint64 {
	x ^= x >> 30
	x *= 0xbf58476d1ce4e5b9
	x ^= x >> 27
	x *= 0x94d049bb133111eb
	x ^= x >> 31
	return x
}

// numbers: the edges, each bit alone, each run of low bits, and others that are alike at each run.
func numbers() []uint64 {
	l := []uint64{0, greatest, greatest - 1, 0x0123456789abcdef, 0xfedcba9876543210}
	for i := range 64 {
		l = append(l, 1<<i, 1<<i-1, ^(1 << i), greatest<<i)
	}
	r := rand.New(rand.NewSource(1))
	for range 20000 {
		l = append(l, r.Uint64())
	}
	return l
}

func TestMixAnswers(t *testing.T) {
	for _, c := range []struct{ x, want uint64 }{
		{0, 0},
		{0x9e3779b97f4a7c15, 0xe220a8397b1dcdaf},
		{0x3c6ef372fe94f82a, 0x6e789e6aa1b965f4},
		{0xdaa66d2c7ddf743f, 0x06c45d188009454f},
	} {
		if got := Mix(c.x); got != c.want {
			t.Errorf("P1.1: Mix(%x) is %x, not %x", c.x, got, c.want)
		}
		if got := Back(c.want); got != c.x {
			t.Errorf("P1.1: Back(%x) is %x, not %x", c.want, got, c.x)
		}
	}
}

func TestMixAsTheChapterSays(t *testing.T) {
	for _, x := range numbers() {
		if got, want := Mix(x), plain(x); got != want {
			t.Fatalf("P1.1: Mix(%x) is %x, not %x", x, got, want)
		}
	}
}

func TestRoundsCanBeUndone(t *testing.T) {
	for i, r := range rounds {
		if r.times*r.back != 1 {
			t.Errorf("P1.2: round %d: %x by %x isn't 1", i, r.times, r.back)
		}
	}
	for down := uint(1); down < 70; down++ {
		for _, x := range []uint64{0, 1, 1 << 63, greatest, 0x0123456789abcdef} {
			if got := unfold(x^x>>down, down); got != x {
				t.Errorf("P1.2: unfold by %d of %x gave %x", down, x, got)
			}
		}
	}
}

func TestMixAndBackUndoOneAnother(t *testing.T) {
	for _, x := range numbers() {
		if got := Back(Mix(x)); got != x {
			t.Fatalf("P1.2: Back(Mix(%x)) is %x", x, got)
		}
		if got := Mix(Back(x)); got != x {
			t.Fatalf("P1.2: Mix(Back(%x)) is %x", x, got)
		}
	}
}

func TestNoTwoAreMixedToOne(t *testing.T) {
	from := map[uint64]uint64{}
	for _, x := range numbers() {
		y := Mix(x)
		if was, ok := from[y]; ok && was != x {
			t.Fatalf("P1.2: %x and %x are both mixed to %x", was, x, y)
		}
		from[y] = x
	}
}

func TestTextAnswers(t *testing.T) {
	for _, seed := range []uint64{0, 1, 5, 1 << 63, greatest, greatest - 1, greatest - 2} {
		if got, want := Text("", seed), plain(seed); got != want {
			t.Errorf("P1.1: Text of none, %x: %x, not %x", seed, got, want)
		}
		if got, want := Text("a", seed), plain(plain(seed+1)^0x61); got != want {
			t.Errorf("P1.1: Text(a, %x) is %x, not %x", seed, got, want)
		}
		if got, want := Text("a\x00\xff", seed), plain(plain(plain(plain(seed+3)^0x61)^0)^0xff); got != want {
			t.Errorf("P1.1: Text of 61 00 ff, %x: %x, not %x", seed, got, want)
		}
	}
	// A seed and a length whose sum is 2^64 are mixed as 0.
	if got := Text("\x00", greatest); got != 0 {
		t.Errorf("P1.1: Text of a nought, ffff..: %x, not 0", got)
	}
	// Bytes count, not runes.
	if got, want := Text("é", 7), plain(plain(plain(9)^0xc3)^0xa9); got != want {
		t.Errorf("P1.1: Text of c3 a9: %x, not %x", got, want)
	}
}

func TestTextOfUnlikeLastBytes(t *testing.T) {
	heads := []string{"", "a", "\x00", "\xff\xfe", "the same text", strings.Repeat("k", 1000)}
	for _, head := range heads {
		for _, seed := range []uint64{0, 1, greatest, 0x0123456789abcdef} {
			seen := map[uint64]int{}
			for b := range 256 {
				x := Text(head+string([]byte{byte(b)}), seed)
				if was, ok := seen[x]; ok {
					t.Fatalf("P1.3: %q, seed %x: last bytes %x and %x are alike", head, seed, was, b)
				}
				seen[x] = b
			}
		}
	}
}

func TestPairAnswers(t *testing.T) {
	if Pair(0, 0) != 0 {
		t.Errorf("P1.1: Pair of noughts")
	}
	l := numbers()[:300]
	for i, a := range l {
		b := l[len(l)-1-i]
		if got, want := Pair(a, b), plain(a^plain(b)); got != want {
			t.Errorf("P1.1: Pair(%x, %x) is %x, not %x", a, b, got, want)
		}
	}
}

func TestPairOfUnlikeNumbersOnOneSide(t *testing.T) {
	l := numbers()[:300]
	for _, fixed := range []uint64{0, 1, 1 << 63, greatest, 0x0123456789abcdef} {
		left, right := map[uint64]uint64{}, map[uint64]uint64{}
		for _, x := range l {
			if was, ok := left[Pair(x, fixed)]; ok && was != x {
				t.Fatalf("P1.3: Pair(%x, %x) is Pair(%x, %x)", x, fixed, was, fixed)
			}
			if was, ok := right[Pair(fixed, x)]; ok && was != x {
				t.Fatalf("P1.3: Pair(%x, %x) is Pair(%x, %x)", fixed, x, fixed, was)
			}
			left[Pair(x, fixed)], right[Pair(fixed, x)] = x, x
		}
	}
}

func TestEveryCallEnds(t *testing.T) {
	// P1: a text of a great length, and bytes that are no runes.
	long := strings.Repeat("\xff\x00", 1<<19)
	if Text(long, greatest) != Text(long, greatest) {
		t.Errorf("P1: a long text's answers are unlike")
	}
}
