package heads

import (
	"encoding/binary"
	"hash/crc32"
	"math"
	"math/rand"
	"strings"
	"testing"

	"bandolier/api"
)

// castagnoli: the sum, by another's hand.
var castagnoli = crc32.MakeTable(crc32.Castagnoli)

// sealed puts noughts behind the fields, and the right sum behind these.
func sealed(fields string) string {
	b := append([]byte(fields), make([]byte, 60-len(fields))...)
	return string(binary.BigEndian.AppendUint32(b, crc32.Checksum(b, castagnoli)))
}

// number: the lowest n bytes of x, the highest first.
func number(x uint64, n int) string {
	return string(binary.BigEndian.AppendUint64(nil, x)[8-n:])
}

// sectors of the four kinds, by the table's words, whatever the fields are.

func superOf(cache, serial, join, segs, per uint64) string {
	return sealed("\x53" + number(cache, 8) + number(serial, 2) + number(join, 8) + number(segs, 2) + number(per, 1))
}

func headOf(cache, join, num, free uint64) string {
	return sealed("\x48" + number(cache, 8) + number(join, 8) + number(num, 8) + number(free, 1))
}

func commitOf(cache, join, num, at, count, sum uint64) string {
	return sealed("\x43" + number(cache, 8) + number(join, 8) + number(num, 8) + number(at, 1) + number(count, 1) + number(sum, 4))
}

func pageOf(seq, index, total, size uint64, data string) string {
	return sealed("\x50" + number(seq, 8) + number(index, 1) + number(total, 1) + number(size, 1) + data)
}

// numbers of 64 bits: the least, the greatest, and some between.
var numbers = []uint64{0, 1, 2, 255, 256, 0x0102030405060708, 1<<63 - 1, 1 << 63, math.MaxUint64 - 1, math.MaxUint64}

func text(n int) string { return strings.Repeat("d\x00\xff\x50", n/4+1)[:n] }

// packer is any of the four types.
type packer interface {
	comparable
	Pack() string
}

// isBoth asks for the sector, and for the way back.
func isBoth[T packer](t *testing.T, x T, to func(string) (T, api.Errno), want string) {
	t.Helper()
	if s := x.Pack(); s != want {
		t.Errorf("P8.1: Pack of %#v: %x, not %x", x, s, want)
	}
	if y, e := to(want); y != x || e != api.OK {
		t.Errorf("P8.2: %#v comes back as %#v, %v", x, y, e)
	}
}

func isWrong[T packer](t *testing.T, what string, to func(string) (T, api.Errno), s string, want api.Errno) {
	t.Helper()
	var none T
	if x, e := to(s); x != none || e != want {
		t.Errorf("P8.1: %s: %#v, %v, not %v (of %x)", what, x, e, want, s)
	}
}

// errorsOf asks all four kinds, in the table's order.
func errorsOf(s string) [4]api.Errno {
	_, a := ToSuper(s)
	_, b := ToHead(s)
	_, c := ToCommit(s)
	_, d := ToPage(s)
	return [4]api.Errno{a, b, c, d}
}

// areAllWrong: none of the four kinds is told.
func areAllWrong(t *testing.T, what, s string, want api.Errno) {
	t.Helper()
	isWrong(t, what+", as a Super", ToSuper, s, want)
	isWrong(t, what+", as a Head", ToHead, s, want)
	isWrong(t, what+", as a Commit", ToCommit, s, want)
	isWrong(t, what+", as a Page", ToPage, s, want)
}

func TestExample(t *testing.T) {
	want := "\x48" + "\x00\x00\x00\x00\x00\x00\x00\x01" + "\x00\x00\x00\x00\x00\x00\x00\x02" + "\x00\x00\x00\x00\x00\x00\x00\x03" + "\x00" + strings.Repeat("\x00", 34)
	isBoth(t, Head{Cache: 1, Join: 2, Number: 3}, ToHead, sealed(want))
	if s := (Head{Cache: 1, Join: 2, Number: 3}).Pack(); s[:60] != want {
		t.Errorf("P8.1: example 1: %x", s)
	}
}

func TestSuper(t *testing.T) {
	for _, cache := range numbers {
		for _, join := range numbers {
			for _, serial := range []int{1, 2, 256, 999, 1000} {
				for _, segs := range []int{2, 3, 255, 256, 1000} {
					for _, per := range []int{8, 9, 63, 64} {
						x := Super{cache, serial, join, segs, per}
						isBoth(t, x, ToSuper, superOf(cache, uint64(serial), join, uint64(segs), uint64(per)))
					}
				}
			}
		}
	}
}

func TestWrongSuper(t *testing.T) {
	for serial := range uint64(1 << 16) {
		want := api.OK
		if serial < 1 || serial > 1000 {
			want = api.ErrForm
		}
		if _, e := ToSuper(superOf(1, serial, 2, 3, 8)); e != want {
			t.Errorf("P8.1: Serial %d: %v, not %v", serial, e, want)
		}
	}
	for segs := range uint64(1 << 16) {
		want := api.OK
		if segs < 2 || segs > 1000 {
			want = api.ErrForm
		}
		if _, e := ToSuper(superOf(1, 2, 3, segs, 8)); e != want {
			t.Errorf("P8.1: Segs %d: %v, not %v", segs, e, want)
		}
	}
	for per := range uint64(256) {
		want := api.OK
		if per < 8 || per > 64 {
			want = api.ErrForm
		}
		if _, e := ToSuper(superOf(1, 2, 3, 4, per)); e != want {
			t.Errorf("P8.1: Per %d: %v, not %v", per, e, want)
		}
	}
	isWrong(t, "Serial 0", ToSuper, superOf(1, 0, 2, 3, 8), api.ErrForm)
	isWrong(t, "Serial 1001", ToSuper, superOf(1, 1001, 2, 3, 8), api.ErrForm)
	isWrong(t, "Segs 1", ToSuper, superOf(1, 2, 3, 1, 8), api.ErrForm)
	isWrong(t, "Segs 1001", ToSuper, superOf(1, 2, 3, 1001, 8), api.ErrForm)
	isWrong(t, "Per 7", ToSuper, superOf(1, 2, 3, 4, 7), api.ErrForm)
	isWrong(t, "Per 65", ToSuper, superOf(1, 2, 3, 4, 65), api.ErrForm)
}

func TestHead(t *testing.T) {
	for _, cache := range numbers {
		for _, join := range numbers {
			for _, num := range numbers[1:] {
				isBoth(t, Head{cache, join, num, false}, ToHead, headOf(cache, join, num, 0))
				isBoth(t, Head{cache, join, num, true}, ToHead, headOf(cache, join, num, 1))
			}
		}
	}
}

func TestWrongHead(t *testing.T) {
	isWrong(t, "Number 0", ToHead, headOf(1, 2, 0, 0), api.ErrForm)
	isWrong(t, "Number 0, Free", ToHead, headOf(1, 2, 0, 1), api.ErrForm)
	for free := uint64(2); free < 256; free++ {
		isWrong(t, "Free of another number", ToHead, headOf(1, 2, 3, free), api.ErrForm)
	}
}

func TestCommit(t *testing.T) {
	for _, cache := range numbers {
		for _, num := range numbers {
			for _, at := range []int{1, 2, 31, 61, 62} {
				for _, count := range []int{1, 63 - at} {
					for _, sum := range []uint32{0, 1, 7, 0x01020304, 1 << 31, math.MaxUint32} {
						x := Commit{cache, ^cache, num, at, count, sum}
						isBoth(t, x, ToCommit, commitOf(cache, ^cache, num, uint64(at), uint64(count), uint64(sum)))
					}
				}
			}
		}
	}
}

func TestAtAndCount(t *testing.T) {
	for at := range 256 {
		for count := range 256 {
			want := api.ErrForm
			if at >= 1 && at <= 63 && count >= 1 && at+count <= 63 {
				want = api.OK
			}
			s := commitOf(1, 2, 3, uint64(at), uint64(count), 4)
			x, e := ToCommit(s)
			if e != want || e != api.OK && x != (Commit{}) {
				t.Fatalf("P8.1: At %d, Count %d: %#v, %v, not %v", at, count, x, e, want)
			}
			if e == api.OK && (x != Commit{1, 2, 3, at, count, 4} || x.Pack() != s) {
				t.Fatalf("P8.2: At %d, Count %d: %#v", at, count, x)
			}
		}
	}
	isWrong(t, "together 64", ToCommit, commitOf(1, 2, 3, 1, 63, 4), api.ErrForm)
	isWrong(t, "together 64", ToCommit, commitOf(1, 2, 3, 62, 2, 4), api.ErrForm)
	isWrong(t, "At 63", ToCommit, commitOf(1, 2, 3, 63, 1, 4), api.ErrForm)
	isWrong(t, "no Count", ToCommit, commitOf(1, 2, 3, 63, 0, 4), api.ErrForm)
	isWrong(t, "At 0", ToCommit, commitOf(1, 2, 3, 0, 1, 4), api.ErrForm)
}

func TestPage(t *testing.T) {
	for _, seq := range numbers[1:] {
		for total := 1; total <= 16; total++ {
			for _, index := range []int{0, total / 2, total - 1} {
				for _, size := range []int{0, 1, 2, 39, 40} {
					x := Page{seq, index, total, text(size)}
					isBoth(t, x, ToPage, pageOf(seq, uint64(index), uint64(total), uint64(size), text(size)))
				}
			}
		}
	}
	isBoth(t, Page{1, 0, 1, "\x00\x00"}, ToPage, pageOf(1, 0, 1, 2, ""))
}

func TestWrongPage(t *testing.T) {
	isWrong(t, "Seq 0", ToPage, pageOf(0, 0, 1, 1, "a"), api.ErrForm)
	isWrong(t, "Total 0", ToPage, pageOf(1, 0, 0, 1, "a"), api.ErrForm)
	isWrong(t, "Total 17", ToPage, pageOf(1, 0, 17, 1, "a"), api.ErrForm)
	isWrong(t, "Total 17, Index 16", ToPage, pageOf(1, 16, 17, 1, "a"), api.ErrForm)
	isWrong(t, "Size 41", ToPage, pageOf(1, 0, 1, 41, text(41)), api.ErrForm)
	isWrong(t, "Size beyond the sum", ToPage, pageOf(1, 0, 1, 49, text(48)), api.ErrForm)
	isWrong(t, "Size 255", ToPage, pageOf(1, 0, 1, 255, ""), api.ErrForm)
	isWrong(t, "Size beside more Data", ToPage, pageOf(1, 0, 1, 1, "ab"), api.ErrForm)
	for index := range uint64(256) {
		for total := range uint64(256) {
			want := api.ErrForm
			if 1 <= total && total <= 16 && index < total {
				want = api.OK
			}
			if x, e := ToPage(pageOf(1, index, total, 1, "a")); e != want || e != api.OK && x != (Page{}) {
				t.Fatalf("P8.1: Index %d, Total %d: %#v, %v, not %v", index, total, x, e, want)
			}
		}
	}
}

// samples: a sector of each kind, in the table's order.
func samples() [4]string {
	return [4]string{
		superOf(9, 1000, 4, 2, 8),
		headOf(1, 2, 3, 1),
		commitOf(9, 4, 1, 1, 62, 7),
		pageOf(1, 15, 16, 40, text(40)),
	}
}

func TestOfOneKind(t *testing.T) {
	for i, s := range samples() {
		for j, e := range errorsOf(s) {
			if want := api.ErrForm; i != j && e != want || i == j && e != api.OK {
				t.Errorf("P8.2: the sector of kind %d, as kind %d: %v", i, j, e)
			}
		}
	}
	for _, s := range samples() {
		for b := range 256 {
			if strings.Contains("\x53\x48\x43\x50", string([]byte{byte(b)})) {
				continue
			}
			areAllWrong(t, "another byte", sealed(string([]byte{byte(b)})+s[1:60]), api.ErrForm)
		}
	}
	areAllWrong(t, "noughts alone", strings.Repeat("\x00", 64), api.ErrSum)
	areAllWrong(t, "noughts with their sum", sealed(""), api.ErrForm)
}

// TestAlikeButForTheKind: fields that may be of another kind are told as
// those of that kind alone whose byte is there.
func TestAlikeButForTheKind(t *testing.T) {
	for _, kind := range []string{"\x53", "\x48", "\x43", "\x50"} {
		for _, s := range samples() {
			told := 0
			for _, e := range errorsOf(sealed(kind + s[1:60])) {
				if e == api.OK {
					told++
				} else if e != api.ErrForm {
					t.Errorf("P8.1: with the byte %x: %v", kind, e)
				}
			}
			if told > 1 || kind == s[:1] && told != 1 {
				t.Errorf("P8.2: with the byte %x: of %d kinds", kind, told)
			}
		}
	}
}

func TestWrongSize(t *testing.T) {
	for _, s := range samples() {
		for n := range 64 {
			areAllWrong(t, "less than 64 bytes", s[:n], api.ErrSize)
		}
		for _, more := range []string{"\x00", "x", strings.Repeat("\x00", 64), s, text(70000)} {
			areAllWrong(t, "more than 64 bytes", s+more, api.ErrSize)
		}
	}
	areAllWrong(t, "no bytes", "", api.ErrSize)
}

func TestWrongSum(t *testing.T) {
	for _, s := range samples() {
		for bit := range 64 * 8 {
			b := []byte(s)
			b[bit/8] ^= 1 << (bit % 8)
			areAllWrong(t, "a bit is otherwise", string(b), api.ErrSum)
		}
	}
}

func TestNoNought(t *testing.T) {
	ends := [4]int{22, 26, 31, 52} // where the fields end
	for i, s := range samples() {
		for at := ends[i]; at < 60; at++ {
			for _, b := range []string{"\x01", "\x80", "\xff", "0"} {
				areAllWrong(t, "no nought", sealed(s[:at]+b+s[at+1:60]), api.ErrForm)
			}
		}
	}
	for size := range 40 {
		s := pageOf(1, 0, 1, uint64(size), text(size))
		for at := 12 + size; at < 60; at++ {
			isWrong(t, "no nought behind Data", ToPage, sealed(s[:at]+"\x01"+s[at+1:60]), api.ErrForm)
		}
	}
}

// TestOrder: of several things that are wrong the first is told.
func TestOrder(t *testing.T) {
	for _, bad := range []string{superOf(1, 0, 2, 3, 8), headOf(1, 2, 0, 0), commitOf(1, 2, 3, 63, 63, 4), pageOf(0, 0, 1, 41, "x"), sealed(text(60))} {
		unsummed := bad[:60] + "\x01\x02\x03\x04"
		areAllWrong(t, "size, sum, a field", unsummed[:63], api.ErrSize)
		areAllWrong(t, "size, a field", bad+"\x00", api.ErrSize)
		areAllWrong(t, "sum, a field", unsummed, api.ErrSum)
		areAllWrong(t, "a field", bad, api.ErrForm)
	}
	for _, s := range samples() {
		areAllWrong(t, "size, sum", s[1:], api.ErrSize)
		areAllWrong(t, "sum, a byte that isn't a nought", s[:59]+"\x01"+s[60:], api.ErrSum)
	}
}

// TestAtMostOne: of whatever bytes one is told, they are its sector, and it is
// of one kind.
func TestAtMostOne(t *testing.T) {
	r := rand.New(rand.NewSource(8))
	told := [4]int{}
	for range 60000 {
		s := samples()[r.Intn(4)]
		b := []byte(s[:60])
		for range r.Intn(3) {
			b[r.Intn(60)] = byte(r.Intn(256) >> r.Intn(9))
		}
		s = sealed(string(b))
		if r.Intn(8) == 0 {
			s = s[:60] + number(r.Uint64(), 4)
		}
		kinds := 0
		for kind, e := range errorsOf(s) {
			if e == api.OK {
				kinds++
				told[kind]++
			}
		}
		if back := packed(s); kinds > 1 || kinds == 1 && back != s {
			t.Fatalf("P8.2: %x is of %d kinds; and back: %x", s, kinds, back)
		}
	}
	for kind, n := range told {
		if n < 100 {
			t.Errorf("the test's own bytes are of kind %d but %d times", kind, n)
		}
	}
}

// packed: the sector of what s is told as, by whichever kind.
func packed(s string) string {
	out := ""
	if x, e := ToSuper(s); e == api.OK {
		out += x.Pack()
	}
	if x, e := ToHead(s); e == api.OK {
		out += x.Pack()
	}
	if x, e := ToCommit(s); e == api.OK {
		out += x.Pack()
	}
	if x, e := ToPage(s); e == api.OK {
		out += x.Pack()
	}
	return out
}

// TestNothingPanics: fields that may not be are taken, too.
func TestNothingPanics(t *testing.T) {
	for _, n := range []int{math.MinInt, -1, 0, 1, 64, 256, 65536, math.MaxInt} {
		for _, data := range []string{"", text(41), text(256), text(70000)} {
			for _, s := range []string{
				Super{uint64(n), n, uint64(n), n, n}.Pack(),
				Head{uint64(n), uint64(n), uint64(n), true}.Pack(),
				Commit{uint64(n), uint64(n), uint64(n), n, n, uint32(n)}.Pack(),
				Page{uint64(n), n, n, data}.Pack(),
				data,
			} {
				if errorsOf(s) != errorsOf(s) {
					t.Errorf("P1: of %x, asked twice", s)
				}
			}
		}
	}
}

func FuzzTo(f *testing.F) {
	for _, s := range samples() {
		f.Add(s[:60])
	}
	f.Fuzz(func(t *testing.T, fields string) {
		s := sealed(fields[:min(len(fields), 60)])
		if back := packed(s); back != "" && back != s {
			t.Errorf("P8.2: %x is told; and back: %x", s, back)
		}
		if back := packed(fields); back != "" && back != fields {
			t.Errorf("P8.2: %x is told; and back: %x", fields, back)
		}
	})
}
