package octet

import (
	"encoding/binary"
	"encoding/hex"
	"errors"
	"math"
	"math/rand"
	"runtime"
	"slices"
	"strings"
	"testing"

	"bandolier/api"
)

var numbers = []uint64{0, 1, 255, 256, 258, 65535, 65536, 0x0102030405060708, 1 << 63, math.MaxUint64}

var widths = []int{math.MinInt, -9, -1, 0, 1, 2, 3, 4, 5, 6, 7, 8, 9, 16, math.MaxInt}

// kept: how many bytes of a number are written, by the chapter's words.
func kept(n int) int {
	if n < 0 {
		return 0
	}
	if n > 8 {
		return 8
	}
	return n
}

func TestOutExample(t *testing.T) {
	var o Out
	if got := o.Num(258, 2).Text("a").Bytes(); got != "\x01\x02\x00\x01\x61" {
		t.Errorf("P3.1: Num(258, 2), Text(a): %x", got)
	}
}

func TestOutZeroHasNothing(t *testing.T) {
	var o Out
	if got := o.Bytes(); got != "" {
		t.Errorf("P3.1: the zero Out has %x", got)
	}
}

func TestOutNum(t *testing.T) {
	for _, x := range numbers {
		whole := string(binary.BigEndian.AppendUint64(nil, x))
		for _, n := range widths {
			var o Out
			want := "ahead" + whole[8-kept(n):]
			if got := o.Raw("ahead").Num(x, n).Bytes(); got != want {
				t.Errorf("P3.1: Num(%x, %d): %x, not %x", x, n, got, want)
			}
		}
	}
}

func TestOutText(t *testing.T) {
	for _, n := range []int{0, 1, 2, 255, 256, 65534, 65535, 65536, 65537, 1 << 17, 1<<17 + 3} {
		s := strings.Repeat("ab\x00\xff", n/4+1)[:n]
		first := s[:min(n, 65535)]
		want := string(binary.BigEndian.AppendUint16(nil, uint16(len(first)))) + first
		var o Out
		if got := o.Text(s).Bytes(); got != want {
			t.Errorf("P3.1: Text of %d bytes: %d bytes, not %d", n, len(got), len(want))
		}
	}
}

func TestOutRaw(t *testing.T) {
	for _, s := range []string{"", "a", "\x00", "\xff\xfe", strings.Repeat("x", 70000)} {
		var o Out
		if got := o.Raw(s).Raw("-").Raw(s).Bytes(); got != s+"-"+s {
			t.Errorf("P3.1: Raw of %d bytes, twice: %d bytes", len(s), len(got))
		}
	}
}

func TestOutFill(t *testing.T) {
	for size := range 70 {
		for n := -2; n < 140; n++ {
			s := strings.Repeat("x", size)
			want := s
			for n > 0 && len(want)%n != 0 {
				want += "\x00"
			}
			var o Out
			if got := o.Raw(s).Fill(n).Bytes(); got != want {
				t.Fatalf("P3.1: Fill(%d) behind %d bytes: %x", n, size, got)
			}
		}
	}
	var none, some Out
	if got := none.Fill(math.MaxInt).Bytes(); got != "" {
		t.Errorf("P3.1: no bytes are a multiple already: %x", got)
	}
	if got := some.Raw("a").Fill(math.MinInt).Bytes(); got != "a" {
		t.Errorf("P3.1: Fill of the least number: %x", got)
	}
}

func TestOutAnswersItself(t *testing.T) {
	o := new(Out)
	for i, got := range []*Out{o.Num(1, 1), o.Num(1, 0), o.Text(""), o.Raw(""), o.Fill(0), o.Fill(1), o.Fill(64)} {
		if got != o {
			t.Errorf("P3.1: call %d answers another Out", i)
		}
	}
}

func TestOutBytesStay(t *testing.T) {
	var o Out
	first := o.Raw("abc").Bytes()
	second := o.Raw("def").Bytes()
	third := o.Fill(64).Bytes()
	if first != "abc" || second != "abcdef" || len(third) != 64 || third != o.Bytes() {
		t.Errorf("P3.1: %q, %q, %q", first, second, third)
	}
}

func TestOutsAreApart(t *testing.T) {
	var a, b Out
	for range 100 {
		a.Raw("a")
		b.Raw("b")
	}
	if a.Bytes() != strings.Repeat("a", 100) || b.Bytes() != strings.Repeat("b", 100) {
		t.Errorf("P3.1: two Outs have %q, %q", a.Bytes(), b.Bytes())
	}
}

func TestTakeNothing(t *testing.T) {
	for _, s := range []string{"", "a", "\x00\x00", strings.Repeat("x", 70000)} {
		if left, e := Take(s, func(*In) {}); left != s || e != api.OK {
			t.Errorf("P3.2: of %d bytes none is taken: %d left, %v", len(s), len(left), e)
		}
	}
}

func TestTakeNum(t *testing.T) {
	s := "\x01\x02\x03\x04\x05\x06\x07\x08\x09"
	for _, n := range widths {
		var want uint64
		for i := range kept(n) {
			want = want*256 + uint64(s[i])
		}
		var got uint64
		left, e := Take(s, func(in *In) { got = in.Num(n) })
		if got != want || left != s[kept(n):] || e != api.OK {
			t.Errorf("P3.2: Num(%d): %x, %x left, %v", n, got, left, e)
		}
	}
}

func TestTakeNumAtTheEnd(t *testing.T) {
	for size := range 10 {
		s := strings.Repeat("\xff", size)
		for _, n := range widths {
			want, rest := api.OK, ""
			if kept(n) > size {
				want = api.ErrEnd
			} else {
				rest = s[kept(n):]
			}
			if left, e := Take(s, func(in *In) { in.Num(n) }); e != want || left != rest {
				t.Errorf("P3.2: Num(%d) of %d bytes: %x left, %v", n, size, left, e)
			}
		}
	}
}

func TestTakeText(t *testing.T) {
	for _, s := range []string{"", "a", "\x00", "\x00\x05hello", strings.Repeat("y", 65535)} {
		whole := string(binary.BigEndian.AppendUint16(nil, uint16(len(s)))) + s
		var got string
		left, e := Take(whole+"more", func(in *In) { got = in.Text() })
		if got != s || left != "more" || e != api.OK {
			t.Errorf("P3.2: a text of %d bytes: %d bytes, %q left, %v", len(s), len(got), left, e)
		}
		for _, cut := range []int{0, 1, 2, len(whole) / 2, len(whole) - 1} {
			if cut >= len(whole) {
				continue
			}
			if left, e := Take(whole[:cut], func(in *In) { in.Text() }); left != "" || e != api.ErrEnd {
				t.Errorf("P3.2: %d of a text's %d bytes: %q left, %v", cut, len(whole), left, e)
			}
		}
	}
}

func TestTakeRaw(t *testing.T) {
	s := "abc"
	for _, n := range []int{math.MinInt, -1, 0, 1, 2, 3} {
		var got string
		left, e := Take(s, func(in *In) { got = in.Raw(n) })
		if m := max(n, 0); got != s[:m] || left != s[m:] || e != api.OK {
			t.Errorf("P3.2: Raw(%d): %q, %q left, %v", n, got, left, e)
		}
	}
	for _, n := range []int{4, 5, math.MaxInt} {
		if left, e := Take(s, func(in *In) { in.Raw(n) }); left != "" || e != api.ErrEnd {
			t.Errorf("P3.2: Raw(%d): %q left, %v", n, left, e)
		}
	}
}

func TestTakeLeft(t *testing.T) {
	var got []int
	Take("\x00\x01abcdef", func(in *In) {
		got = append(got, in.Left())
		in.Text()
		got = append(got, in.Left())
		in.Num(2)
		got = append(got, in.Left())
		in.Raw(3)
		got = append(got, in.Left())
	})
	if !slices.Equal(got, []int{8, 5, 3, 0}) {
		t.Errorf("P3.2: Left answers %v", got)
	}
}

func TestTakeZero(t *testing.T) {
	for size := range 70 {
		s := strings.Repeat("\x00", size)
		behind := -1
		left, e := Take("x"+s, func(in *In) {
			in.Raw(1)
			in.Zero()
			behind = in.Left()
		})
		if left != "" || e != api.OK || behind != 0 {
			t.Errorf("P3.2: Zero over %d noughts: %q left (%d), %v", size, left, behind, e)
		}
		for i := range size {
			for _, b := range []string{"\x01", "\x80", "0"} {
				bad := s[:i] + b + s[i+1:]
				if left, e := Take(bad, func(in *In) { in.Zero() }); left != "" || e != api.ErrForm {
					t.Errorf("P3.2: Zero over %x: %q left, %v", bad, left, e)
				}
			}
		}
	}
}

func TestTakeFail(t *testing.T) {
	for e := api.Errno(-3); e <= 40; e++ {
		on := false
		left, got := Take("abc", func(in *In) {
			in.Raw(1)
			in.Fail(e)
			on = true
		})
		if e == api.OK && (left != "bc" || got != api.OK || !on) {
			t.Errorf("P3.2: Fail(OK): %q left, %v", left, got)
		}
		if e != api.OK && (left != "" || got != e || on) {
			t.Errorf("P3.2: Fail(%d): %q left, %v, it went on: %v", e, left, got, on)
		}
	}
}

func TestTakeEndsAtOnce(t *testing.T) {
	var steps []string
	deeper := func(in *In) {
		defer func() { steps = append(steps, "deferred") }()
		in.Num(2)
		steps = append(steps, "taken")
		in.Num(2)
		steps = append(steps, "beyond")
	}
	left, e := Take("abc", func(in *In) {
		deeper(in)
		steps = append(steps, "behind")
	})
	if left != "" || e != api.ErrEnd || !slices.Equal(steps, []string{"taken", "deferred"}) {
		t.Errorf("P3.2: %q left, %v, steps %v", left, e, steps)
	}
}

func TestTakeTellsTheFirstError(t *testing.T) {
	left, e := Take("abc", func(in *In) {
		defer in.Fail(api.ErrStale)
		in.Raw(4)
	})
	if left != "" || e != api.ErrEnd {
		t.Errorf("P3.2: what failed first is told: %q, %v", left, e)
	}
	left, e = Take("abc", func(in *In) {
		defer func() { _ = recover() }()
		in.Fail(api.ErrStale)
	})
	if left != "" || e != api.ErrStale {
		t.Errorf("P3.2: broken off, though do took it: %q, %v", left, e)
	}
}

func TestTakeWithinTake(t *testing.T) {
	left, e := Take("\x00\x02abcd", func(in *In) {
		inner, e := Take(in.Text(), func(in *In) { in.Num(3) })
		if inner != "" || e != api.ErrEnd {
			t.Errorf("P3.2: the inner one: %q, %v", inner, e)
		}
		in.Raw(1)
	})
	if left != "d" || e != api.OK {
		t.Errorf("P3.2: the outer one goes on: %q, %v", left, e)
	}
	on := false
	left, e = Take("abc", func(outer *In) {
		Take("xyz", func(*In) { outer.Fail(api.ErrFull) })
		on = true
	})
	if left != "" || e != api.ErrFull || on {
		t.Errorf("P3.2: the outer one is ended from within: %q, %v, it went on: %v", left, e, on)
	}
}

// panicOf answers what Take let go on.
func panicOf(do func(in *In)) (p any) {
	defer func() { p = recover() }()
	Take("abc", do)
	return nil
}

func TestTakeLetsOtherPanicsGoOn(t *testing.T) {
	mine := errors.New("mine")
	for _, want := range []any{"text", 7, mine, api.ErrEnd, api.OK, struct{}{}} {
		if got := panicOf(func(*In) { panic(want) }); got != want {
			t.Errorf("P3.2: a panic of %v goes on as %v", want, got)
		}
	}
	none := []int(nil)
	if _, is := panicOf(func(in *In) { none[in.Left()]++ }).(runtime.Error); !is {
		t.Errorf("P3.2: a panic of the language's own doesn't go on")
	}
	if got := panicOf(func(in *In) {
		defer func() { panic("while it ends") }()
		in.Fail(api.ErrStale)
	}); got != "while it ends" {
		t.Errorf("P3.2: a panic while do ends goes on as %v", got)
	}
	if got := panicOf(func(in *In) { in.Raw(4) }); got != nil {
		t.Errorf("P1: Take panics: %v", got)
	}
}

// part is something written, which is to be taken again.
type part struct {
	kind, width int
	num         uint64
	text        string
}

func anyParts(r *rand.Rand) []part {
	parts := make([]part, r.Intn(12))
	for i := range parts {
		b := make([]byte, r.Intn(40))
		r.Read(b)
		parts[i] = part{kind: r.Intn(3), width: r.Intn(12) - 2, num: r.Uint64() >> r.Intn(64), text: string(b)}
	}
	return parts
}

func (p part) write(o *Out) {
	switch p.kind {
	case 0:
		o.Num(p.num, p.width)
	case 1:
		o.Text(p.text)
	default:
		o.Raw(p.text)
	}
}

// isTaken answers if the part comes back as it was written.
func (p part) isTaken(in *In) bool {
	switch p.kind {
	case 0:
		want := p.num
		if k := kept(p.width); k < 8 {
			want &= 1<<(8*k) - 1
		}
		return in.Num(p.width) == want
	case 1:
		return in.Text() == p.text
	}
	return in.Raw(len(p.text)) == p.text
}

func TestThereAndBack(t *testing.T) {
	r := rand.New(rand.NewSource(3))
	for range 2000 {
		parts := anyParts(r)
		var o Out
		for _, p := range parts {
			p.write(&o)
		}
		s := o.Bytes()
		take := func(in *In) {
			for _, p := range parts {
				if !p.isTaken(in) {
					t.Fatalf("P3.2: of %v one comes back otherwise", parts)
				}
			}
		}
		if left, e := Take(s+"tail", take); left != "tail" || e != api.OK {
			t.Fatalf("P3.2: of %v: %q left, %v", parts, left, e)
		}
		if len(s) == 0 {
			continue
		}
		if left, e := Take(s[:r.Intn(len(s))], take); left != "" || e != api.ErrEnd {
			t.Fatalf("P3.2: %v, cut off: %q left, %v", parts, left, e)
		}
	}
}

func TestTakeOfAnyBytes(t *testing.T) {
	r := rand.New(rand.NewSource(4))
	for range 5000 {
		b := make([]byte, r.Intn(30))
		r.Read(b)
		for i := range b {
			b[i] >>= r.Intn(9) // small numbers make texts that fit
		}
		s := string(b)
		rest, want := s, api.OK // by hand: what each step leaves
		left, e := Take(s, func(in *In) {
			for want == api.OK && in.Left() > 0 {
				n := r.Intn(5)
				need := n
				if r.Intn(2) == 0 {
					need = 2
					if len(rest) >= 2 {
						need += int(rest[0])<<8 | int(rest[1])
					}
					n = -1
				}
				if need > len(rest) {
					rest, want = "", api.ErrEnd
				} else {
					rest = rest[need:]
				}
				if n < 0 {
					in.Text()
				} else {
					in.Raw(n)
				}
				if want != api.OK {
					t.Fatalf("P3.2: of %x it goes on beyond the end", s)
				}
			}
		})
		if left != rest || e != want {
			t.Fatalf("P3.2: of %x: %x left, %v, not %x, %v", s, left, e, rest, want)
		}
	}
}

func TestHex(t *testing.T) {
	all := make([]byte, 256)
	for i := range all {
		all[i] = byte(i)
	}
	for _, s := range []string{"", "\x00", "a", "\xff\x0f\xf0", string(all)} {
		want := hex.EncodeToString([]byte(s))
		if got := Hex(s); got != want {
			t.Errorf("P3.1: Hex(%q) is %s", s, got)
		}
		if got, is := Unhex(want); got != s || !is {
			t.Errorf("P3.2: Unhex(%s) is %q, %v", want, got, is)
		}
	}
}

func TestUnhexOfAnyTwoBytes(t *testing.T) {
	for i := range 1 << 16 {
		s := string([]byte{byte(i >> 8), byte(i)})
		want, err := hex.DecodeString(s)
		is := err == nil && s == strings.ToLower(s)
		if !is {
			want = nil
		}
		if got, ok := Unhex(s); got != string(want) || ok != is {
			t.Fatalf("P3.2: Unhex(%q) is %q, %v", s, got, ok)
		}
	}
}

func TestUnhexOfWrongTexts(t *testing.T) {
	for _, s := range []string{"0", "a", "000", "61 ", " 61", "6G", "6g", "AB", "aB", "Ab", "0x", "0x61", "61\x00", "61\n", "616", "-1", "+1", "é", "00:0", "０１"} {
		if got, is := Unhex(s); got != "" || is {
			t.Errorf("P3.2: Unhex(%q) is %q, %v", s, got, is)
		}
	}
}
