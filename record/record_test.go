package record

import (
	"encoding/binary"
	"hash/crc32"
	"math"
	"math/rand"
	"strings"
	"testing"

	"bandolier/api"
)

// castagnoli: the sum, by another's hand.
var castagnoli = crc32.MakeTable(crc32.Castagnoli)

// fields: an entry's bytes ahead of the sum, by the chapter's words.
func fields(e Entry) string {
	b := []byte{0x52, byte(e.Kind)}
	b = binary.BigEndian.AppendUint64(b, e.Version)
	b = binary.BigEndian.AppendUint64(b, uint64(e.Expiry))
	b = binary.BigEndian.AppendUint16(b, uint16(len(e.Key)))
	b = append(b, e.Key...)
	b = binary.BigEndian.AppendUint16(b, uint16(len(e.Value)))
	return string(append(b, e.Value...))
}

// summed puts the right sum behind the fields.
func summed(s string) string {
	return string(binary.BigEndian.AppendUint32([]byte(s), crc32.Checksum([]byte(s), castagnoli)))
}

// filled puts noughts behind s, up to the next multiple of 63 bytes.
func filled(s string) string {
	for len(s)%63 != 0 {
		s += "\x00"
	}
	return s
}

// payload: an entry's, whatever its fields are.
func payload(e Entry) string { return filled(summed(fields(e))) }

func text(n int) string { return strings.Repeat("k\x00\xff\x52", n/4+1)[:n] }

func isUnpacked(t *testing.T, what, s string, want Entry, e api.Errno) {
	t.Helper()
	if got, f := Unpack(s); got != want || f != e {
		t.Errorf("%s: Unpack of %d bytes (%x): %#v, %v, not %#v, %v", what, len(s), s, got, f, want, e)
	}
}

func isWrong(t *testing.T, what, s string, e api.Errno) {
	t.Helper()
	isUnpacked(t, what, s, Entry{}, e)
}

// right: entries without an error, among them those at the edges.
func right() []Entry {
	l := []Entry{{Key: "a", Version: 1, Kind: Value, Expiry: 9, Value: "x"}}
	for _, key := range []int{1, 2, 23, 24} {
		for _, version := range []uint64{1, 2, 1 << 40, 1<<63 - 1, 1 << 63, math.MaxUint64} {
			l = append(l, Entry{Key: text(key), Version: version, Kind: Tomb})
			for _, expiry := range []int{0, 1, 255, api.MaxTick - 1, api.MaxTick} {
				for _, value := range []int{0, 1, 36, 255, 256, 299, 300} {
					l = append(l, Entry{text(key), version, Value, expiry, text(value)})
				}
			}
		}
	}
	return l
}

func TestKinds(t *testing.T) {
	if Value != 1 || Tomb != 2 {
		t.Errorf("P7.1: the kinds are %d, %d", Value, Tomb)
	}
}

func TestCheckOfRightOnes(t *testing.T) {
	for _, e := range right() {
		if f := e.Check(); f != api.OK {
			t.Errorf("P7.1: Check of %#v: %v", e, f)
		}
	}
}

func TestCheck(t *testing.T) {
	cases := []struct {
		what string
		e    Entry
		want api.Errno
	}{
		{"the zero one", Entry{}, api.ErrArg},
		{"version 0", Entry{"a", 0, Value, 0, ""}, api.ErrArg},
		{"version 0 of a tomb", Entry{"a", 0, Tomb, 0, ""}, api.ErrArg},
		{"kind 0", Entry{"a", 1, 0, 0, ""}, api.ErrArg},
		{"kind 3", Entry{"a", 1, 3, 0, ""}, api.ErrArg},
		{"kind -1", Entry{"a", 1, -1, 0, ""}, api.ErrArg},
		{"kind 257", Entry{"a", 1, 257, 0, ""}, api.ErrArg},
		{"kind 258", Entry{"a", 1, 258, 0, ""}, api.ErrArg},
		{"the least kind", Entry{"a", 1, math.MinInt, 0, ""}, api.ErrArg},
		{"the greatest kind", Entry{"a", 1, math.MaxInt, 0, ""}, api.ErrArg},
		{"Expiry -1", Entry{"a", 1, Value, -1, ""}, api.ErrArg},
		{"the least Expiry", Entry{"a", 1, Value, math.MinInt, ""}, api.ErrArg},
		{"Expiry beyond MaxTick", Entry{"a", 1, Value, api.MaxTick + 1, ""}, api.ErrArg},
		{"the greatest Expiry", Entry{"a", 1, Value, math.MaxInt, ""}, api.ErrArg},
		{"a tomb with an Expiry", Entry{"a", 1, Tomb, 1, ""}, api.ErrArg},
		{"a tomb with MaxTick", Entry{"a", 1, Tomb, api.MaxTick, ""}, api.ErrArg},
		{"a tomb with Expiry -1", Entry{"a", 1, Tomb, -1, ""}, api.ErrArg},
		{"a tomb with a Value", Entry{"a", 1, Tomb, 0, "x"}, api.ErrArg},
		{"a tomb with a Value of MaxValue", Entry{"a", 1, Tomb, 0, text(300)}, api.ErrArg},
		{"a tomb with a Value beyond MaxValue", Entry{"a", 1, Tomb, 0, text(301)}, api.ErrArg},
		{"no key", Entry{"", 1, Value, 0, "x"}, api.ErrSize},
		{"no key of a tomb", Entry{"", 1, Tomb, 0, ""}, api.ErrSize},
		{"a key beyond MaxKey", Entry{text(25), 1, Value, 0, "x"}, api.ErrSize},
		{"a tomb's key beyond MaxKey", Entry{text(25), 1, Tomb, 0, ""}, api.ErrSize},
		{"a long key", Entry{text(70000), 1, Value, 0, "x"}, api.ErrSize},
		{"a value beyond MaxValue", Entry{"a", 1, Value, 0, text(301)}, api.ErrSize},
		{"a long value", Entry{"a", 1, Value, 0, text(70000)}, api.ErrSize},
		{"no key, and a value beyond MaxValue", Entry{"", 1, Value, 0, text(301)}, api.ErrSize},
	}
	for _, c := range cases {
		if f := c.e.Check(); f != c.want {
			t.Errorf("P7.1: Check of %s: %v, not %v", c.what, f, c.want)
		}
	}
}

func TestCheckOfBothIsErrArg(t *testing.T) {
	for _, key := range []int{0, 1, 24, 25} {
		for _, value := range []int{0, 300, 301} {
			for _, e := range []Entry{
				{Version: 0, Kind: Value},
				{Version: 1, Kind: 0},
				{Version: 1, Kind: 3},
				{Version: 1, Kind: Value, Expiry: -1},
				{Version: 1, Kind: Value, Expiry: api.MaxTick + 1},
				{Version: 1, Kind: Tomb, Expiry: 1},
				{Version: 0, Kind: Tomb},
			} {
				e.Key, e.Value = text(key), text(value)
				if f := e.Check(); f != api.ErrArg {
					t.Errorf("P7.1: Check of %#v (a length of %d, of %d): %v", e, key, value, f)
				}
			}
		}
	}
}

func TestSectors(t *testing.T) {
	for _, e := range right() {
		want := len(payload(e)) / 63
		if got := e.Sectors(); got != want {
			t.Errorf("P7.1: Sectors of %#v: %d, not %d", e, got, want)
		}
	}
	tomb := Entry{Key: text(24), Version: 1, Kind: Tomb}
	if tomb.Sectors() != 1 {
		t.Errorf("P7.1: Sectors of a tomb: %d", tomb.Sectors())
	}
}

func TestNeed(t *testing.T) {
	for key := 1; key <= 24; key++ {
		for value := 0; value <= 300; value++ {
			e := Entry{Key: text(key), Version: 7, Kind: Value, Value: text(value)}
			want := (1 + 1 + 8 + 8 + 2 + key + 2 + value + 4 + 62) / 63
			if got := Need(e.Key, e.Value); got != want || e.Sectors() != want || len(e.Pack()) != 63*want {
				t.Fatalf("P7.1: Need of %d and %d bytes: %d, Sectors %d, %d bytes; not %d", key, value, got, e.Sectors(), len(e.Pack()), want)
			}
		}
	}
}

func TestExample(t *testing.T) {
	e := Entry{Key: "a", Version: 1, Kind: Value, Expiry: 9, Value: "x"}
	s := e.Pack()
	want := "\x52\x01" + "\x00\x00\x00\x00\x00\x00\x00\x01" + "\x00\x00\x00\x00\x00\x00\x00\x09" + "\x00\x01a" + "\x00\x01x"
	if s != filled(summed(want)) || len(s) != 63 || e.Sectors() != 1 {
		t.Errorf("P7.1: example 1: %x, %d", s, e.Sectors())
	}
	isUnpacked(t, "P7.2: example 1", s, e, api.OK)
}

func TestThereAndBack(t *testing.T) {
	for _, e := range right() {
		s := e.Pack()
		if s != payload(e) {
			t.Fatalf("P7.1: Pack of %#v: %x, not %x", e, s, payload(e))
		}
		if got, f := Unpack(s); got != e || f != api.OK {
			t.Fatalf("P7.2: %#v comes back as %#v, %v", e, got, f)
		}
	}
}

// justFull: a payload without noughts behind the sum, of so many sectors.
func justFull(sectors int) Entry {
	return Entry{Key: "kk", Version: 5, Kind: Value, Value: text(63*sectors - 28)}
}

func TestJustFull(t *testing.T) {
	for sectors := 1; sectors <= 5; sectors++ {
		e := justFull(sectors)
		if n := len(summed(fields(e))); n != 63*sectors {
			t.Fatalf("the test's own entry has %d bytes", n)
		}
		if e.Sectors() != sectors || e.Pack() != summed(fields(e)) {
			t.Errorf("P7.1: just %d sectors: %d, %x", sectors, e.Sectors(), e.Pack())
		}
		isUnpacked(t, "P7.2: just full", e.Pack(), e, api.OK)
		isWrong(t, "P7.1: a nought more", e.Pack()+"\x00", api.ErrForm)
		isWrong(t, "P7.1: a sector of noughts more", e.Pack()+strings.Repeat("\x00", 63), api.ErrForm)
		isWrong(t, "P7.1: a byte less", e.Pack()[:63*sectors-1], api.ErrEnd)
		e.Value += "y"
		if e.Sectors() != sectors+1 || len(e.Pack()) != 63*(sectors+1) {
			t.Errorf("P7.1: a byte more than %d sectors: %d, %d bytes", sectors, e.Sectors(), len(e.Pack()))
		}
		isUnpacked(t, "P7.2: one byte more", e.Pack(), e, api.OK)
	}
}

func TestUnpackOfBeginnings(t *testing.T) {
	for _, e := range []Entry{
		{Key: "a", Version: 1, Kind: Value, Expiry: 9, Value: "x"},
		{Key: text(24), Version: 1 << 50, Kind: Tomb},
		{Key: text(24), Version: 77, Kind: Value, Expiry: 1, Value: text(300)},
		{Key: "a", Version: 1, Kind: Value},
		justFull(1), justFull(2),
	} {
		s := e.Pack()
		needed := len(summed(fields(e)))
		for n := range len(s) {
			want := api.ErrEnd // the entry's own bytes are wanting
			if n >= needed {
				want = api.ErrForm // noughts are
			}
			isWrong(t, "P7.1: a beginning", s[:n], want)
		}
	}
}

func TestUnpackOfNoBytes(t *testing.T) {
	isWrong(t, "P7.1: no bytes", "", api.ErrEnd)
	isWrong(t, "P7.1: the first byte alone", "\x52", api.ErrEnd)
	isWrong(t, "P7.1: another byte alone", "\x51", api.ErrForm)
	isWrong(t, "P7.1: a nought alone", "\x00", api.ErrForm)
	isWrong(t, "P7.1: 63 noughts", strings.Repeat("\x00", 63), api.ErrForm)
}

func TestUnpackOfAnotherFirstByte(t *testing.T) {
	s := fields(Entry{Key: "a", Version: 1, Kind: Value, Value: "x"})
	for b := range 256 {
		if b == 0x52 {
			continue
		}
		other := string([]byte{byte(b)}) + s[1:]
		isWrong(t, "P7.1: another first byte, with its sum", filled(summed(other)), api.ErrForm)
		isWrong(t, "P7.1: another first byte, and all is wanting", other[:1], api.ErrForm)
	}
}

func TestUnpackOfMore(t *testing.T) {
	for _, e := range []Entry{{Key: "a", Version: 1, Kind: Tomb}, justFull(1), justFull(3), {Key: "a", Version: 1, Kind: Value, Value: text(300)}} {
		s := e.Pack()
		for _, more := range []string{"\x00", "\x01", strings.Repeat("\x00", 62), strings.Repeat("\x00", 63), strings.Repeat("\x00", 64), strings.Repeat("\x00", 126), s} {
			isWrong(t, "P7.1: more", s+more, api.ErrForm)
		}
	}
}

func TestUnpackOfNoNoughts(t *testing.T) {
	e := Entry{Key: "a", Version: 1, Kind: Value, Expiry: 9, Value: "x"}
	s := e.Pack()
	for i := len(summed(fields(e))); i < len(s); i++ {
		for _, b := range []string{"\x01", "\x80", "0", "\xff"} {
			isWrong(t, "P7.1: no nought behind the sum", s[:i]+b+s[i+1:], api.ErrForm)
		}
	}
}

func TestUnpackOfWrongFields(t *testing.T) {
	cases := []struct {
		e    Entry
		want api.Errno
	}{
		{Entry{"a", 0, Value, 0, "x"}, api.ErrArg},
		{Entry{"a", 1, 0, 0, "x"}, api.ErrArg},
		{Entry{"a", 1, 3, 0, "x"}, api.ErrArg},
		{Entry{"a", 1, 255, 0, "x"}, api.ErrArg},
		{Entry{"a", 1, Value, -1, "x"}, api.ErrArg},
		{Entry{"a", 1, Value, math.MinInt, "x"}, api.ErrArg},
		{Entry{"a", 1, Value, math.MaxInt, "x"}, api.ErrArg},
		{Entry{"a", 1, Value, api.MaxTick + 1, "x"}, api.ErrArg},
		{Entry{"a", 1, Tomb, 1, ""}, api.ErrArg},
		{Entry{"a", 1, Tomb, 0, "x"}, api.ErrArg},
		{Entry{"", 1, Value, 0, "x"}, api.ErrSize},
		{Entry{"", 1, Tomb, 0, ""}, api.ErrSize},
		{Entry{text(25), 1, Value, 0, "x"}, api.ErrSize},
		{Entry{text(65535), 1, Value, 0, text(65535)}, api.ErrSize},
		{Entry{"a", 1, Value, 0, text(301)}, api.ErrSize},
		{Entry{"", 0, Value, 0, "x"}, api.ErrArg},
		{Entry{text(25), 1, 3, 0, text(301)}, api.ErrArg},
	}
	for _, c := range cases {
		isWrong(t, "P7.1: a wrong field with its sum", payload(c.e), c.want)
	}
}

func TestUnpackOfAnotherSum(t *testing.T) {
	for _, e := range []Entry{{Key: "a", Version: 1, Kind: Tomb}, {Key: "a", Version: 1, Kind: Value, Expiry: 9, Value: "x"}, justFull(1), justFull(2)} {
		s, end := e.Pack(), len(fields(e))
		for bit := range 32 {
			b := []byte(s)
			b[end+bit/8] ^= 1 << (bit % 8)
			isWrong(t, "P7.1: another sum", string(b), api.ErrSum)
		}
		isWrong(t, "P7.1: a sum of noughts", filled(fields(e)+"\x00\x00\x00\x00"), api.ErrSum)
	}
}

// TestUnpackTellsInOrder: of several things that are wrong the first is told.
func TestUnpackTellsInOrder(t *testing.T) {
	bad := Entry{"a", 0, Value, 0, "x"}
	long := Entry{text(25), 1, Value, 0, "x"}
	good := Entry{"a", 1, Value, 0, "x"}
	noSum := "\x01\x02\x03\x04"
	first := func(s string) string { return "\x53" + s[1:] }
	last := func(s string) string { return s[:len(s)-1] + "\x01" }
	cases := []struct {
		what, s string
		want    api.Errno
	}{
		{"first byte, wanting", first(fields(bad)), api.ErrForm},
		{"first byte, noughts, Check, sum", first(last(filled(fields(bad) + noSum))), api.ErrForm},
		{"first byte, Check, sum", first(filled(fields(long) + noSum)), api.ErrForm},
		{"wanting, Check", fields(bad), api.ErrEnd},
		{"wanting, Check of a length", fields(long) + noSum[:3], api.ErrEnd},
		{"noughts, Check, sum", last(filled(fields(bad) + noSum)), api.ErrForm},
		{"more, Check of a length, sum", filled(fields(long)+noSum) + "\x00", api.ErrForm},
		{"no noughts, Check", summed(fields(bad)), api.ErrForm},
		{"noughts, sum", last(filled(fields(good) + noSum)), api.ErrForm},
		{"Check, sum", filled(fields(bad) + noSum), api.ErrArg},
		{"Check of a length, sum", filled(fields(long) + noSum), api.ErrSize},
		{"sum", filled(fields(good) + noSum), api.ErrSum},
	}
	for _, c := range cases {
		isWrong(t, "P7.1: the order: "+c.what, c.s, c.want)
	}
	isUnpacked(t, "P7.1: the order: nothing", payload(good), good, api.OK)
}

// anyEntry: one without an error.
func anyEntry(r *rand.Rand) Entry {
	key, value := make([]byte, 1+r.Intn(24)), make([]byte, r.Intn(301)>>r.Intn(9))
	r.Read(key)
	r.Read(value)
	e := Entry{Key: string(key), Version: 1 + r.Uint64()>>(1+r.Intn(63)), Kind: Tomb}
	if r.Intn(3) > 0 {
		e.Kind, e.Expiry, e.Value = Value, r.Intn(api.MaxTick+1)>>r.Intn(41), string(value)
	}
	return e
}

// TestAtMostOne: of a payload with one byte otherwise no entry is told.
func TestAtMostOne(t *testing.T) {
	r := rand.New(rand.NewSource(7))
	for range 3000 {
		e := anyEntry(r)
		b := []byte(e.Pack())
		b[r.Intn(len(b))] ^= byte(1 + r.Intn(255))
		if got, f := Unpack(string(b)); got != (Entry{}) || f == api.OK {
			t.Fatalf("P7.2: of %#v a byte is otherwise (%x): %#v, %v", e, b, got, f)
		}
	}
}

// plainly: the order of the errors, by the chapter's words.
func plainly(s string) api.Errno {
	if len(s) > 0 && s[0] != 0x52 {
		return api.ErrForm
	}
	end := 18
	for range 2 {
		if len(s) < end+2 {
			return api.ErrEnd
		}
		end += 2 + int(s[end])<<8 + int(s[end+1])
	}
	if len(s) < end+4 {
		return api.ErrEnd
	}
	if s != filled(s[:end+4]) {
		return api.ErrForm
	}
	key := int(s[18])<<8 + int(s[19])
	e := Entry{s[20 : 20+key], binary.BigEndian.Uint64([]byte(s[2:])), int(s[1]), int(binary.BigEndian.Uint64([]byte(s[10:]))), s[22+key : end]}
	if f := e.Check(); f != api.OK {
		return f
	}
	if s[:end+4] != summed(s[:end]) {
		return api.ErrSum
	}
	return api.OK
}

func TestUnpackOfAnyBytes(t *testing.T) {
	r := rand.New(rand.NewSource(77))
	seen := map[api.Errno]int{}
	for range 40000 {
		e := anyEntry(r)
		for range r.Intn(2) { // fields that may not be
			switch r.Intn(6) {
			case 0:
				e.Version = 0
			case 1:
				e.Kind = r.Intn(256)
			case 2:
				e.Expiry = r.Int() - r.Int()
			case 3:
				e.Key = text(r.Intn(30))
			case 4:
				e.Value = text(r.Intn(400))
			case 5:
				e.Kind = 3 - e.Kind
			}
		}
		b := []byte(payload(e))
		switch r.Intn(5) {
		case 0:
			b = b[:r.Intn(len(b)+1)]
		case 1:
			b = append(b, make([]byte, r.Intn(130))...)
		case 2:
			b[r.Intn(len(b))] ^= 1 << r.Intn(8)
		case 3:
			r.Read(b[1:])
			b[18], b[20+int(b[19])%8] = 0, 0
		}
		s := string(b)
		want := plainly(s)
		got, f := Unpack(s)
		if f != want || f != api.OK && got != (Entry{}) {
			t.Fatalf("P7.1: Unpack of %x: %#v, %v, not %v", s, got, f, want)
		}
		if f == api.OK && (got.Pack() != s || got.Check() != api.OK || got.Sectors()*63 != len(s)) {
			t.Fatalf("P7.2: %x has the entry %#v, whose payload is %x", s, got, got.Pack())
		}
		seen[f]++
	}
	for _, f := range []api.Errno{api.OK, api.ErrArg, api.ErrSize, api.ErrEnd, api.ErrForm, api.ErrSum} {
		if seen[f] < 100 {
			t.Errorf("the test's own bytes answer %v but %d times", f, seen[f])
		}
	}
}

// TestNothingPanics: entries that may not be are taken, too.
func TestNothingPanics(t *testing.T) {
	for _, n := range []int{math.MinInt, -1, 0, 1, 2, 3, 256, math.MaxInt} {
		for _, s := range []string{"", text(25), text(301), text(65536), text(200000)} {
			e := Entry{Key: s, Version: 0, Kind: n, Expiry: n, Value: s}
			first := e.Pack()
			if first != e.Pack() || e.Sectors() != e.Sectors() || Need(s, s) != Need(s, s) || e.Check() != e.Check() {
				t.Errorf("P1: of an entry of %d, asked twice", n)
			}
			Unpack(first)
			Unpack(s)
		}
	}
}

func FuzzUnpack(f *testing.F) {
	for _, e := range right()[:20] {
		f.Add(e.Pack())
	}
	f.Add("")
	f.Fuzz(func(t *testing.T, s string) {
		e, got := Unpack(s)
		if got != plainly(s) || got == api.OK && e.Pack() != s || got != api.OK && e != (Entry{}) {
			t.Errorf("P7.2: %x: %#v, %v", s, e, got)
		}
	})
}
