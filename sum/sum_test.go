package sum

import (
	"hash/crc32"
	"math/rand"
	"slices"
	"strings"
	"testing"
)

// plain says the sum as the chapter's words do: bit by bit, nothing at once.
func plain(s string) uint32 {
	sum := ^uint32(0)
	for i := 0; i < len(s); i++ {
		for k := 0; k < 8; k++ {
			out := sum&1 ^ uint32(s[i])>>k&1
			sum >>= 1
			if out == 1 {
				sum ^= 0x82F63B78
			}
		}
	}
	return ^sum
}

// texts: the edges, each byte alone, and others.
func texts() []string {
	l := []string{"", "a", "123456789", "\x00", "\x00\x00\x00\x00", "\xff\xff\xff\xff", "é", strings.Repeat("\x00", 64), strings.Repeat("x", 4096)}
	for b := range 256 {
		l = append(l, string([]byte{byte(b)}))
	}
	r := rand.New(rand.NewSource(2))
	for range 300 {
		b := make([]byte, r.Intn(200))
		r.Read(b)
		l = append(l, string(b))
	}
	return l
}

func TestOfAnswers(t *testing.T) {
	if got := Of("123456789"); got != 0xE3069283 {
		t.Errorf("P2.1: Of(123456789) is %x", got)
	}
	if Of() != 0 || Of("") != 0 || Of("", "", "") != 0 {
		t.Errorf("P2.1: of no bytes: %x, %x, %x", Of(), Of(""), Of("", "", ""))
	}
	if got := Of([]string(nil)...); got != 0 {
		t.Errorf("P2.1: of a nil list: %x", got)
	}
	if got := Of(strings.Repeat("\x00", 32)); got != 0x8A9136AA {
		t.Errorf("P2.1: of 32 noughts: %x", got)
	}
	if got := Of(strings.Repeat("\xff", 32)); got != 0x62A8AB43 {
		t.Errorf("P2.1: of 32 bytes ff: %x", got)
	}
}

func TestOfAsTheChapterSays(t *testing.T) {
	castagnoli := crc32.MakeTable(crc32.Castagnoli)
	for _, s := range texts() {
		got := Of(s)
		if want := plain(s); got != want {
			t.Fatalf("P2.1: Of(%q) is %x, not %x", s, got, want)
		}
		if want := crc32.Checksum([]byte(s), castagnoli); got != want {
			t.Fatalf("P2.1: Of(%q) is %x, as CRC-32C %x", s, got, want)
		}
	}
}

func TestOnAnswers(t *testing.T) {
	for _, s := range texts() {
		if got, want := On(0, s), Of(s); got != want {
			t.Fatalf("P2.1: On(0, %q) is %x, not %x", s, got, want)
		}
		if got, want := On(Of(s), "and more"), plain(s+"and more"); got != want {
			t.Fatalf("P2.1: On of %q: %x, not %x", s, got, want)
		}
	}
	for _, x := range []uint32{0, 1, 1 << 31, ^uint32(0), 0xE3069283} {
		if got := On(x, ""); got != x {
			t.Errorf("P2.1: On(%x, none) is %x", x, got)
		}
	}
}

func TestTableAnswers(t *testing.T) {
	table := Table()
	castagnoli := crc32.MakeTable(crc32.Castagnoli)
	for b, got := range table {
		if want := castagnoli[b]; got != want {
			t.Errorf("P2.1: Table()[%d] is %x, not %x", b, got, want)
		}
		sum := uint32(0)
		for k := range 8 {
			out := sum&1 ^ uint32(b)>>k&1
			sum >>= 1
			if out == 1 {
				sum ^= 0x82F63B78
			}
		}
		if got != sum {
			t.Errorf("P2.1: Table()[%d] is %x, bit by bit %x", b, got, sum)
		}
	}
	if table[0] != 0 || table[128] != 0x82F63B78 {
		t.Errorf("P2.1: Table of 0 and 128: %x, %x", table[0], table[128])
	}
	table[1] = 0
	if Table()[1] == 0 {
		t.Errorf("P2.1: Table answers the same memory twice")
	}
}

func TestInWhateverParts(t *testing.T) {
	const s = "a text of \x00 some \xff length, é"
	want := plain(s)
	for i := range len(s) + 1 {
		if got := On(Of(s[:i]), s[i:]); got != want {
			t.Errorf("P2.2: On, parted at %d: %x, not %x", i, got, want)
		}
		for k := i; k <= len(s); k++ {
			if got := Of(s[:i], s[i:k], s[k:]); got != want {
				t.Errorf("P2.2: Of, parted at %d and %d: %x, not %x", i, k, got, want)
			}
		}
	}
	if got := Of(strings.Split(s, "")...); got != want {
		t.Errorf("P2.2: part by part: %x, not %x", got, want)
	}
	if got := Of("", s, ""); got != want {
		t.Errorf("P2.2: between empty parts: %x, not %x", got, want)
	}
	if Of("12", "3") == Of("3", "12") {
		t.Errorf("P2.2: the order of the parts doesn't count")
	}
}

func TestOneByteIsAnotherOne(t *testing.T) {
	for _, s := range []string{"a", "123456789", strings.Repeat("\x00", 64)} {
		was := Of(s)
		for i := range len(s) {
			b := []byte(s)
			for x := 1; x < 256; x++ {
				b[i] = s[i] ^ byte(x)
				if Of(string(b)) == was {
					t.Fatalf("P2.3: %q: byte %d as %x has the same sum", s, i, b[i])
				}
			}
		}
	}
}

// flipped: s with the bits of mask turned, from bit at on (the lowest of a byte first).
func flipped(s string, at int, mask uint32) string {
	b := []byte(s)
	for k := range 32 {
		if mask>>k&1 == 1 {
			b[(at+k)/8] ^= 1 << ((at + k) % 8)
		}
	}
	return string(b)
}

func TestBitsOneBehindTheOtherAreOthers(t *testing.T) {
	r := rand.New(rand.NewSource(3))
	for _, s := range []string{strings.Repeat("\x00", 20), "a text of twenty byt"} {
		was := Of(s)
		for at := range len(s)*8 - 31 {
			masks := []uint32{1, 3, 0x80000001, ^uint32(0), 0x82F63B78, 0x1EDC6F41, 0x05EC76F1}
			for range 40 {
				masks = append(masks, r.Uint32()>>r.Intn(32)|1)
			}
			for _, m := range masks {
				if Of(flipped(s, at, m)) == was {
					t.Fatalf("P2.3: %q: bits %x from bit %d on turned: the same sum", s, m, at)
				}
			}
		}
	}
}

func TestWhatIsHandedInStays(t *testing.T) {
	l := append(make([]string, 0, 8), "one", "", "two")
	kept := slices.Clone(l[:cap(l)])
	Of(l...)
	if !slices.Equal(kept, l[:cap(l)]) {
		t.Errorf("P1: Of changed its list, or its spare room: %q", l[:cap(l)])
	}
}

func TestEveryCallEnds(t *testing.T) {
	// P1: a text of a great length, and very many parts.
	long := strings.Repeat("\xff\x00", 1<<18)
	parts := make([]string, 1<<16)
	parts[1<<15] = long
	if Of(parts...) != Of(long) || On(^uint32(0), long) != On(^uint32(0), long) {
		t.Errorf("P1: long texts' answers are unlike")
	}
}
