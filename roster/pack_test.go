package roster

import (
	"encoding/binary"
	"math"
	"math/rand"
	"reflect"
	"strings"
	"testing"

	"bandolier/api"
)

// numbers of 64 bits: the least, the greatest, and some between.
var numbers = []uint64{0, 1, 255, 256, 0x0102030405060708, 1<<63 - 1, 1 << 63, math.MaxUint64 - 1, math.MaxUint64}

// headOf answers a roster's bytes ahead of its members, of whatever count.
func headOf(r Roster, count int) string {
	var b []byte
	for _, x := range []uint64{r.Cache, r.Epoch, r.Lease, r.Joins} {
		b = binary.BigEndian.AppendUint64(b, x)
	}
	return string(append(b, byte(count)))
}

func memberOf(serial int, join uint64, state int) string {
	b := binary.BigEndian.AppendUint16(nil, uint16(serial))
	return string(append(binary.BigEndian.AppendUint64(b, join), byte(state)))
}

// bytesOf answers a roster's bytes, by the chapter's words.
func bytesOf(r Roster) string {
	s := headOf(r, len(r.Members))
	for _, m := range r.Members {
		s += memberOf(m.Serial, m.Join, m.State)
	}
	return s
}

func isBoth(t *testing.T, r Roster) {
	t.Helper()
	s := bytesOf(r)
	if got := r.Pack(); got != s {
		t.Errorf("P10.1: Pack of %v: %x, not %x", r, got, s)
	}
	x, e := Unpack(s)
	if e != api.OK {
		t.Errorf("P10.3: Unpack of %v: %v", r, e)
	}
	is(t, "P10.3: there and back", x, r)
	if again, _ := Unpack(s); !reflect.DeepEqual(again, x) {
		t.Errorf("P10.3: alike is alike: %v, %v", again, x)
	}
}

func isTold(t *testing.T, what, s string, want api.Errno) {
	t.Helper()
	r, e := Unpack(s)
	isWrong(t, "Unpack: "+what, r, e, want)
}

func TestThereAndBack(t *testing.T) {
	for n := range 17 {
		isBoth(t, manyOf(n))
		isBoth(t, filledOf(t, n))
	}
	for _, a := range numbers {
		for _, b := range numbers {
			r := Roster{max(a, 1), b, a, b, nil}
			isBoth(t, r)
			if b > 0 {
				r.Members = []Member{{1, b, Draining}}
				isBoth(t, r)
			}
			if b > 1 {
				r.Members = []Member{{1, 1, Active}, {256, b, Active}, {1000, b/2 + 1, Draining}}
				isBoth(t, r)
			}
		}
	}
}

func TestNoBytes(t *testing.T) {
	isTold(t, "no bytes", "", api.ErrEnd)
	isTold(t, "noughts that are too few", strings.Repeat("\x00", 32), api.ErrEnd)
	isTold(t, "noughts: Cache 0", strings.Repeat("\x00", 33), api.ErrArg)
	isTold(t, "noughts that are too many", strings.Repeat("\x00", 34), api.ErrForm)
}

func TestEachBeginning(t *testing.T) {
	for n := range 17 {
		s := manyOf(n).Pack()
		for i := range len(s) {
			isTold(t, "a beginning", s[:i], api.ErrEnd)
		}
		for b := range 256 {
			isTold(t, "one byte more", s+string([]byte{byte(b)}), api.ErrForm)
		}
		isTold(t, "as much once more", s+s, api.ErrForm)
		if n < 16 {
			isTold(t, "a member more than was told", s+memberOf(900, 1, Active), api.ErrForm)
		}
	}
}

func TestTooManyMembers(t *testing.T) {
	member := memberOf(1, 1, Active)
	for count := 17; count < 256; count++ {
		for _, r := range []Roster{{Cache: 1, Joins: 1}, {}} {
			head := headOf(r, count)
			isTold(t, "too many, without their bytes", head, api.ErrBig)
			isTold(t, "too many, some bytes are wanting", head+strings.Repeat(member, count)[1:], api.ErrBig)
			isTold(t, "too many, with their bytes", head+strings.Repeat(member, count), api.ErrBig)
			isTold(t, "too many, and bytes are left", head+strings.Repeat(member, count)+"x", api.ErrBig)
			isTold(t, "too many, but the number is wanting", head[:32], api.ErrEnd)
		}
	}
	full := manyOf(17)
	isTold(t, "17 that may be, but for their number", bytesOf(full), api.ErrBig)
	isTold(t, "16 told, without their bytes", headOf(Roster{Cache: 1}, 16), api.ErrEnd)
}

// wrongOnes: rosters that have as many members as may be, but aren't right.
func wrongOnes() []Roster {
	l := []Roster{
		{Epoch: 1, Joins: 1},
		{1, 0, 0, 2, []Member{{5, 1, Active}, {5, 2, Active}}},
		{1, 0, 0, 2, []Member{{6, 1, Active}, {5, 2, Active}}},
		{1, 0, 0, 2, []Member{{5, 2, Active}, {6, 2, Active}}},
	}
	for _, n := range []int{1, 16} {
		for _, at := range []int{0, n - 1} {
			for _, serial := range []int{0, 1001, 65535} {
				l = append(l, changed(manyOf(n), at, func(m *Member) { m.Serial = serial }))
			}
			for _, join := range []uint64{0, 41, 1 << 63, math.MaxUint64} {
				l = append(l, changed(manyOf(n), at, func(m *Member) { m.Join = join }))
			}
			for _, state := range []int{0, 3, 255} {
				l = append(l, changed(manyOf(n), at, func(m *Member) { m.State = state }))
			}
		}
	}
	return l
}

func TestUnpackOfWrongOnes(t *testing.T) {
	for _, r := range wrongOnes() {
		s := bytesOf(r)
		isTold(t, "Check's error", s, api.ErrArg)
		isTold(t, "Check's error, and bytes are left", s+"\x00", api.ErrForm)
		isTold(t, "Check's error, and a byte is wanting", s[:len(s)-1], api.ErrEnd)
	}
}

// Of any bytes there is at most one roster, whose bytes they are.
func TestAnyBytes(t *testing.T) {
	rnd := rand.New(rand.NewSource(10))
	for range 200000 {
		b := []byte(bytesOf(manyOf(rnd.Intn(17))))
		for range rnd.Intn(3) {
			b[rnd.Intn(len(b))] = byte(rnd.Intn(256))
		}
		b = b[:len(b)-rnd.Intn(2)*rnd.Intn(len(b))]
		r, e := Unpack(string(b))
		if e != api.OK {
			isWrong(t, "Unpack of any bytes", r, e, e)
			continue
		}
		if r.Check() != api.OK || r.Pack() != string(b) {
			t.Errorf("P10.3: %x is told as %v", b, r)
		}
	}
}
