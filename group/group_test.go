package group

import (
	"encoding/binary"
	"hash/crc32"
	"math"
	"slices"
	"strings"
	"testing"

	"bandolier/api"
	"bandolier/flash"
	"bandolier/heads"
	"bandolier/medium"
)

const (
	device = 7
	size   = 80 // sectors: a segment of 64, and some on both sides
	base   = 5
)

// castagnoli: the sum, by another's hand.
var castagnoli = crc32.MakeTable(crc32.Castagnoli)

// number: the lowest n bytes of x, the highest first.
func number(x uint64, n int) string {
	return string(binary.BigEndian.AppendUint64(nil, x)[8-n:])
}

// sealed puts noughts behind the fields, and the right sum behind these.
func sealed(fields string) string {
	b := append([]byte(fields), make([]byte, 60-len(fields))...)
	return string(binary.BigEndian.AppendUint32(b, crc32.Checksum(b, castagnoli)))
}

// commitOf: a Commit's sector, by the words of layer 8's table.
func commitOf(cache, join, num uint64, at, count int, sum uint32) string {
	return sealed("\x43" + number(cache, 8) + number(join, 8) + number(num, 8) +
		number(uint64(at), 1) + number(uint64(count), 1) + number(uint64(sum), 4))
}

func sumOf(payload string) uint32 { return crc32.Checksum([]byte(payload), castagnoli) }

// groupOf: a whole group's sectors, by the chapter's words.
func groupOf(cache, join, num uint64, at int, payload string) string {
	all := commitOf(cache, join, num, at, len(payload)/63, sumOf(payload))
	for i := 0; i < len(payload); i += 63 {
		all += "\x44" + payload[i:i+63]
	}
	return all
}

// text: a payload of n sectors, which is another one for another name.
func text(name byte, n int) string {
	b := make([]byte, 63*n)
	for i := range b {
		b[i] = name + byte(i*i/7)
	}
	return string(b)
}

func newPool(t *testing.T) *flash.Pool {
	t.Helper()
	p := flash.New()
	if e := p.Add(device, size); e != api.OK {
		t.Fatalf("Add: %v", e)
	}
	return p
}

func mediumOf(t *testing.T, p *flash.Pool) *medium.Medium {
	t.Helper()
	m, e := medium.Of(p, device)
	if e != api.OK {
		t.Fatalf("Of: %v", e)
	}
	return m
}

// segOf: a segment from base on, as nobody has looked at it yet.
func segOf(t *testing.T, p *flash.Pool, per int) *Seg {
	t.Helper()
	return &Seg{M: mediumOf(t, p), Cache: 1, Join: 2, Number: 3, Base: base, Per: per}
}

// goesWell does do within a Guard, of which nothing is to come up.
func goesWell(t *testing.T, promise string, do func()) {
	t.Helper()
	if b, is := medium.Guard(do); is {
		t.Errorf("%s: broken off: %v", promise, b)
	}
}

// lay writes sectors from a place of the segment on, for sure.
func lay(t *testing.T, p *flash.Pool, at int, s string) {
	t.Helper()
	m := mediumOf(t, p)
	goesWell(t, "P11.1", func() { m.Write(base+at, s); m.Flush() })
}

// all: every sector of the device.
func all(t *testing.T, p *flash.Pool) string {
	t.Helper()
	m, s := mediumOf(t, p), ""
	goesWell(t, "P11.1", func() { s = m.Read(0, size) })
	return s
}

// A found group.
type found struct {
	at      int
	payload string
}

// look scans by a new Seg, and reads what it finds; where the next one comes.
func look(t *testing.T, p *flash.Pool, per int) ([]found, int) {
	t.Helper()
	s := segOf(t, p, per)
	var l []found
	goesWell(t, "P11.1", func() {
		places := s.Scan()
		for i, at := range places {
			end := s.At
			if i+1 < len(places) {
				end = places[i+1]
			}
			l = append(l, found{at, s.Read(at, end-at-1)})
		}
	})
	return l, s.At
}

// areFound: just these payloads are found, one behind the other from 1 on.
func areFound(t *testing.T, what string, p *flash.Pool, per int, payloads ...string) {
	t.Helper()
	var want []found
	end := 1
	for _, x := range payloads {
		want = append(want, found{end, x})
		end += 1 + len(x)/63
	}
	if l, at := look(t, p, per); !slices.Equal(l, want) || at != end {
		t.Errorf("%s: %d groups, next at %d, not %d, %d", what, len(l), at, len(want), end)
	}
}

func TestExample(t *testing.T) {
	p := newPool(t)
	s := segOf(t, p, 8)
	s.At = 1
	goesWell(t, "P11.1", func() {
		if at := s.Append(text('a', 2)); at != 1 || s.At != 4 {
			t.Errorf("P11.1: example 1: at %d, the next one at %d", at, s.At)
		}
	})
	areFound(t, "P11.1: example 1", p, 8, text('a', 2))
}

// The sectors themselves, by the chapter's words; nothing beside them changes.
func TestSectors(t *testing.T) {
	p := newPool(t)
	s := &Seg{M: mediumOf(t, p), Cache: 1 << 63, Join: math.MaxUint64, Number: 0x0102030405060708, Base: base, Per: 64, At: 1}
	want, at := "", 1
	goesWell(t, "P11.1", func() {
		for i, n := range []int{1, 2, 5, 1, 7} {
			x := text(byte(i), n)
			want += groupOf(1<<63, math.MaxUint64, 0x0102030405060708, at, x)
			if got := s.Append(x); got != at {
				t.Errorf("P11.1: it is at %d, not %d", got, at)
			}
			at += n + 1
			if s.At != at {
				t.Errorf("P11.1: the next one at %d, not %d", s.At, at)
			}
			if p.Loose(device) != 0 {
				t.Errorf("P11.2: some of it is loose")
			}
		}
	})
	want = strings.Repeat("\x00", (base+1)*64) + want
	want += strings.Repeat("\x00", size*64-len(want))
	if all(t, p) != want {
		t.Errorf("P11.1: other sectors than the chapter's words say")
	}
}

// What is on the device behind each operation: the payload, sure, is ahead of
// the Commit.
func TestOrder(t *testing.T) {
	x := text('x', 2)
	g := groupOf(1, 2, 3, 1, x)
	commit, one, two, none := g[:64], g[64:128], g[128:], strings.Repeat("\x00", 64)
	for after, want := range []struct {
		sectors string
		loose   int
	}{
		{none + none + none, 0},
		{none + one + none, 1},
		{none + one + two, 2},
		{none + one + two, 0},
		{commit + one + two, 1},
		{commit + one + two, 0},
	} {
		p := newPool(t)
		s := segOf(t, p, 8)
		s.At = 1
		p.Halt(after)
		_, broken := medium.Guard(func() { s.Append(x) })
		if broken != (after < 5) {
			t.Errorf("P11.1: behind %d operations: broken off: %v", after, broken)
		}
		loose := p.Loose(device)
		p.Crash(1, 1, 1)
		if got := all(t, p)[(base+1)*64:][:3*64]; got != want.sectors || loose != want.loose {
			t.Errorf("P11.1: behind %d operations: %d loose, not %d; sectors %x", after, loose, want.loose, got)
		}
		if broken && s.At != 1 {
			t.Errorf("P11.2: behind %d operations: it is broken off, but the next one at %d", after, s.At)
		}
	}
}

func TestRoom(t *testing.T) {
	for _, per := range []int{8, 9, 63, 64} {
		for at := 1; at <= per; at++ {
			s := &Seg{Per: per, At: at}
			for n := -3; n <= per+3; n++ {
				if want := n >= 1 && at+n < per; s.Room(n) != want {
					t.Errorf("P11.1: Per %d, At %d: Room(%d) is %v", per, at, n, !want)
				}
			}
			for _, n := range []int{math.MinInt, math.MinInt + 1, -per, math.MaxInt - at, math.MaxInt - 1, math.MaxInt} {
				if s.Room(n) {
					t.Errorf("P11.1: Per %d, At %d: Room(%d)", per, at, n)
				}
			}
		}
	}
}

// A segment is filled, by groups of all sizes, till there is no Room.
func TestFill(t *testing.T) {
	for _, per := range []int{8, 9, 63, 64} {
		for n := 1; n < per; n++ {
			p := newPool(t)
			ahead := strings.Repeat("\x44ahead-", 11)[:64]
			lay(t, p, per, ahead) // the next segment's
			s := segOf(t, p, per)
			var want []string
			goesWell(t, "P11.1", func() {
				s.Scan()
				for s.Room(n) {
					want = append(want, text(byte(len(want)), n))
					s.Append(want[len(want)-1])
				}
			})
			if len(want) != (per-1)/(n+1) {
				t.Errorf("P11.1: Per %d: %d groups of %d", per, len(want), n)
			}
			areFound(t, "P11.1: filled", p, per, want...)
			l := all(t, p)
			if l[(base+per)*64:][:64] != ahead || l[:(base+1)*64] != strings.Repeat("\x00", (base+1)*64) {
				t.Errorf("P11.1: Per %d: sectors beside the segment's groups changed", per)
			}
		}
	}
}

// The greatest group there is, and one that ends where the segment ends.
func TestGreatest(t *testing.T) {
	for _, per := range []int{8, 64} {
		p := newPool(t)
		s := segOf(t, p, per)
		goesWell(t, "P11.1", func() {
			s.Scan()
			if !s.Room(per-2) || s.Room(per-1) {
				t.Errorf("P11.1: Per %d: Room for %d, not for %d", per, per-2, per-1)
			}
			s.Append(text('a', per-2))
		})
		if s.At != per || s.Room(1) || s.Room(0) {
			t.Errorf("P11.1: Per %d: the next one at %d", per, s.At)
		}
		areFound(t, "P11.1: one group", p, per, text('a', per-2))
	}
}

// What may not come, doesn't: nothing is done.
func TestAppendWrong(t *testing.T) {
	for _, per := range []int{8, 64} {
		p := newPool(t)
		s := segOf(t, p, per)
		goesWell(t, "P1", func() { s.Scan(); s.Append(text('a', 2)) })
		before := all(t, p)
		count := p.Count()
		for what, x := range map[string]string{
			"no payload":        "",
			"a byte":            "a",
			"a byte less":       text('a', 1)[1:],
			"a byte more":       text('a', 1) + "a",
			"a sector too many": text('a', per-s.At),
			"more than Per":     text('a', per+1),
			"far too many":      text('a', 5000),
		} {
			goesWell(t, "P1", func() {
				if at := s.Append(x); at != 0 || s.At != 4 {
					t.Errorf("P1: %s: at %d, the next one at %d", what, at, s.At)
				}
			})
		}
		if p.Count() != count || all(t, p) != before {
			t.Errorf("P1: a payload that may not come was written")
		}
		areFound(t, "P1: behind wrong ones", p, per, text('a', 2))
	}
}

func TestAppendNowhere(t *testing.T) {
	p := newPool(t)
	for _, at := range []int{math.MinInt, -1, 0, 8, 9, math.MaxInt} {
		s := segOf(t, p, 8)
		s.At = at
		goesWell(t, "P1", func() {
			if got := s.Append(text('a', 1)); got != 0 || s.At != at {
				t.Errorf("P1: At %d: %d, the next one at %d", at, got, s.At)
			}
		})
	}
	if all(t, p) != strings.Repeat("\x00", size*64) {
		t.Errorf("P1: sectors that aren't a group's were written")
	}
}

func TestRead(t *testing.T) {
	p := newPool(t)
	s := segOf(t, p, 16)
	a, b, c := text('a', 1), text('b', 3), text('c', 2)
	goesWell(t, "P11.1", func() {
		s.Scan()
		s.Append(a)
		s.Append(b)
		s.Append(c)
		for _, x := range []struct {
			at, n int
			want  string
		}{
			{1, 1, a}, {3, 3, b}, {7, 2, c},
			{3, 1, b[:63]}, {3, 2, b[:126]}, {4, 2, b[63:]}, // some of its sectors
			{1, 2, ""}, {1, 5, ""}, {3, 4, ""}, {2, 1, ""}, {0, 1, ""}, {0, 2, ""}, // a Commit among them
			{7, 3, ""}, {9, 1, ""}, {12, 3, ""}, {14, 1, ""}, // noughts among them
			{15, 1, ""}, {16, 1, ""}, {1, 15, ""}, {1, 16, ""}, // behind the end
			{1, 0, ""}, {1, -1, ""}, {-1, 1, ""}, {-1, 2, ""}, {-5, 1, ""},
			{1, math.MaxInt, ""}, {1, math.MinInt, ""}, {math.MaxInt, 1, ""}, {math.MinInt, 1, ""},
			{math.MaxInt, math.MaxInt, ""}, {math.MinInt, math.MinInt, ""}, {math.MinInt, math.MaxInt, ""}, {math.MaxInt, math.MinInt, ""},
		} {
			if got := s.Read(x.at, x.n); got != x.want {
				t.Errorf("P11.1: Read(%d, %d): %d bytes: %.20q, not %.20q", x.at, x.n, len(got), got, x.want)
			}
		}
	})
}

// What lies beside the segment is none of it, though it looks like payload.
func TestReadBeside(t *testing.T) {
	p := newPool(t)
	sector := "\x44" + text('z', 1)
	for at := -base; at < size-base; at++ {
		lay(t, p, at, sector)
	}
	s := segOf(t, p, 8)
	goesWell(t, "P11.1", func() {
		for at := -3; at < 12; at++ {
			for n := -2; n < 12; n++ {
				want := ""
				if at >= 1 && n >= 1 && at+n < 8 {
					want = strings.Repeat(sector[1:], n)
				}
				if got := s.Read(at, n); got != want {
					t.Errorf("P11.1: Read(%d, %d): %d bytes, not %d", at, n, len(got), len(want))
				}
			}
		}
	})
}

// Every byte but 44 at a sector's beginning says that it isn't payload.
func TestReadMark(t *testing.T) {
	p := newPool(t)
	for mark := range 256 {
		lay(t, p, 2, "\x44"+text('a', 1)+string([]byte{byte(mark)})+text('b', 1))
		lay(t, p, 1, commitOf(1, 2, 3, 1, 2, sumOf(text('a', 1)+text('b', 1))))
		s := segOf(t, p, 8)
		goesWell(t, "P11.1", func() {
			got, places := s.Read(1, 2), s.Scan()
			if is := mark == 0x44; (got != "") != is || (len(places) == 1) != is {
				t.Errorf("P11.1: a sector that begins with %x: %.10q, %v", mark, got, places)
			}
		})
	}
}

// wrongs: sectors from place 4 on, of which there is no group.
func wrongs() map[string]string {
	x := text('x', 2)
	good := groupOf(1, 2, 3, 4, x)
	changed := []byte(good)
	changed[64+63] ^= 1
	last := []byte(good)
	last[2*64+63] ^= 0x80
	broken := []byte(good)
	broken[63] ^= 1
	return map[string]string{
		"nothing":                     "",
		"another Cache":               groupOf(9, 2, 3, 4, x),
		"another Join":                groupOf(1, 9, 3, 4, x),
		"an elder Number":             groupOf(1, 2, 2, 4, x),
		"a later Number":              groupOf(1, 2, 4, 4, x),
		"Number 0":                    groupOf(1, 2, 0, 4, x),
		"Cache and Join the other":    groupOf(2, 1, 3, 4, x),
		"the place ahead":             groupOf(1, 2, 3, 3, x),
		"the place behind":            groupOf(1, 2, 3, 5, x),
		"the first place":             groupOf(1, 2, 3, 1, x),
		"a Count too great":           commitOf(1, 2, 3, 4, 3, sumOf(x)) + good[64:],
		"a Count too small":           commitOf(1, 2, 3, 4, 1, sumOf(x)) + good[64:],
		"no payload":                  good[:64],
		"half a payload":              good[:128],
		"the other half":              good[:64] + strings.Repeat("\x00", 64) + good[128:],
		"its halves the other way":    good[:64] + good[128:] + good[64:128],
		"another payload":             good[:64] + groupOf(1, 2, 3, 4, text('y', 2))[64:],
		"a bit of its payload":        string(changed),
		"the last bit of its payload": string(last),
		"another sum":                 commitOf(1, 2, 3, 4, 2, sumOf(x)^1) + good[64:],
		"the sum of nothing":          commitOf(1, 2, 3, 4, 2, 0) + good[64:],
		"a Commit of a wrong sum":     string(broken),
		"payload alone":               good[64:],
		"a Head":                      heads.Head{Cache: 1, Join: 2, Number: 3}.Pack() + good[64:],
		"a Super":                     heads.Super{Cache: 1, Serial: 7, Join: 2, Segs: 2, Per: 8}.Pack() + good[64:],
		"a Page":                      heads.Page{Seq: 1, Total: 1}.Pack() + good[64:],
	}
}

// Behind a group that is there: what isn't one ends it, also if another one,
// that would be right, lies behind that; and what comes next goes over it.
func TestScanWrong(t *testing.T) {
	a, b := text('a', 2), text('b', 1)
	for what, sectors := range wrongs() {
		p := newPool(t)
		lay(t, p, 1, groupOf(1, 2, 3, 1, a))
		lay(t, p, 4, sectors)
		lay(t, p, 7, groupOf(1, 2, 3, 7, b))
		areFound(t, "P11.3: "+what, p, 16, a)
		s := segOf(t, p, 16)
		goesWell(t, "P11.3", func() {
			s.Scan()
			s.Append(text('c', 1))
		})
		areFound(t, "P11.3: behind "+what, p, 16, a, text('c', 1))
		lay(t, p, 4, groupOf(1, 2, 3, 4, text('x', 2)))
		areFound(t, "P11.1: in the place of "+what, p, 16, a, text('x', 2), b)
	}
}

// What is wrong at the first place.
func TestScanWrongFirst(t *testing.T) {
	for what, s := range map[string]string{
		"another Cache":  groupOf(2, 2, 3, 1, text('x', 1)),
		"another Join":   groupOf(1, 1, 3, 1, text('x', 1)),
		"another Number": groupOf(1, 2, 1, 1, text('x', 1)),
		"another place":  groupOf(1, 2, 3, 2, text('x', 1)),
	} {
		p := newPool(t)
		lay(t, p, 1, s)
		lay(t, p, 3, groupOf(1, 2, 3, 3, text('y', 1)))
		areFound(t, "P11.3: "+what, p, 8)
	}
}

// Numbers of 64 bits that are alike in most of them.
func TestScanNumbers(t *testing.T) {
	x := text('x', 1)
	for bit := range 64 {
		for which := range 3 {
			n := [3]uint64{1, 2, 3}
			n[which] ^= 1 << bit
			p := newPool(t)
			lay(t, p, 1, groupOf(n[0], n[1], n[2], 1, x))
			areFound(t, "P11.3: a bit of its numbers", p, 8)
			s := &Seg{M: mediumOf(t, p), Cache: n[0], Join: n[1], Number: n[2], Base: base, Per: 8}
			goesWell(t, "P11.1", func() {
				if l := s.Scan(); !slices.Equal(l, []int{1}) || s.At != 3 || s.Read(1, 1) != x {
					t.Errorf("P11.1: of %v: %v, the next one at %d", n, l, s.At)
				}
			})
		}
	}
}

// Place and count together are less than Per, or it is none: also where all
// its sectors would be payload.
func TestScanEnd(t *testing.T) {
	for _, per := range []int{8, 9, 62, 63, 64} {
		for n := 1; n < 63; n++ {
			p := newPool(t)
			lay(t, p, 1, groupOf(1, 2, 3, 1, text('x', n)))
			var want []string
			if 1+n < per {
				want = []string{text('x', n)}
			}
			areFound(t, "P11.3: at the end", p, per, want...)
		}
	}
}

// The last group of a segment ends with it; what looks like one more behind it
// is of no segment, or of no device.
func TestScanBehindEnd(t *testing.T) {
	p := newPool(t)
	a, b, c := text('a', 3), text('b', 2), text('c', 1)
	lay(t, p, 1, groupOf(1, 2, 3, 1, a)+groupOf(1, 2, 3, 5, b)+groupOf(1, 2, 3, 8, c))
	areFound(t, "P11.3: up to the end", p, 8, a, b)
	areFound(t, "P11.3: with one sector more", p, 9, a, b)
	areFound(t, "P11.1: with two sectors more", p, 10, a, b, c)

	s := segOf(t, p, 8)
	s.Base = size - 8 // the device's last sectors
	goesWell(t, "P11.1", func() {
		s.At = 1
		s.Append(a)
		s.Append(b)
		if l := s.Scan(); !slices.Equal(l, []int{1, 5}) || s.At != 8 {
			t.Errorf("P11.1: at the device's end: %v, the next one at %d", l, s.At)
		}
	})
}

// Where At was ahead of it doesn't matter to a Scan.
func TestScanAt(t *testing.T) {
	p := newPool(t)
	a := text('a', 2)
	lay(t, p, 1, groupOf(1, 2, 3, 1, a))
	for _, at := range []int{math.MinInt, -1, 0, 1, 2, 4, 8, 9, math.MaxInt} {
		s := segOf(t, p, 8)
		s.At = at
		goesWell(t, "P11.1", func() {
			if l := s.Scan(); !slices.Equal(l, []int{1}) || s.At != 4 {
				t.Errorf("P11.1: At %d ahead of it: %v, the next one at %d", at, l, s.At)
			}
		})
	}
}

// A Scan that is broken off leaves At where it was: else what is there would
// be written over.
func TestScanBroken(t *testing.T) {
	a, b, c := text('a', 1), text('b', 2), text('c', 1)
	for after := 0; ; after++ {
		p := newPool(t)
		s := segOf(t, p, 16)
		goesWell(t, "P11.2", func() { s.Scan(); s.Append(a); s.Append(b) })
		p.Arm(device, after, false)
		told, broken := medium.Guard(func() { s.Scan() })
		if !broken {
			break
		}
		if told.Serial != device || told.Err != api.ErrIO || s.At != 6 {
			t.Errorf("P11.2: a Scan broken off at operation %d: %v, the next one at %d", after, told, s.At)
		}
		goesWell(t, "P11.2", func() { s.Append(c) })
		areFound(t, "P11.2: behind a Scan that was broken off", p, 16, a, b, c)
	}
}

// Payloads that are made like a Commit, as far as goes; also where a group was
// to come, but for which they were written.
func TestPayloadLikeCommit(t *testing.T) {
	y := text('y', 1)
	for at := 1; at < 7; at++ {
		like := commitOf(1, 2, 3, at, 1, sumOf(y))
		for what, x := range map[string]string{
			"its first bytes":      like[:63] + y,
			"its last bytes":       like[1:] + y,
			"behind a byte":        "\x44" + like[:62] + y,
			"all of it, and on":    like + "\x44" + (y + y)[:61],
			"of both sorts":        like[1:] + like[:63],
			"on and on":            (like + "\x44" + y + like)[:126],
			"all bytes the mark's": strings.Repeat("\x44", 126),
			"all bytes a Commit's": strings.Repeat("\x43", 126),
		} {
			p := newPool(t)
			s := segOf(t, p, 8)
			goesWell(t, "P11.3", func() {
				s.Scan()
				s.Append(x)
				s.Append(x)
			})
			areFound(t, "P11.3: "+what, p, 8, x, x)

			p = newPool(t)
			s = segOf(t, p, 8)
			s.At = 1
			p.Halt(5) // the payload of five is written, and the sixth operation is wanting
			medium.Guard(func() { s.Append(strings.Repeat(x, 2) + y) })
			p.Crash(1, 1, 1, 1, 1)
			areFound(t, "P11.3: broken off, "+what, p, 8)
			goesWell(t, "P11.3", func() {
				s = segOf(t, p, 8)
				s.Scan()
				s.Append(y)
			})
			areFound(t, "P11.3: behind it, "+what, p, 8, y)
		}
	}
}

// An elder group that lies just where a shorter one ends isn't found: it is of
// another Number. Those of a longer payload that was broken off neither.
func TestElderBehindShorter(t *testing.T) {
	p := newPool(t)
	elder := segOf(t, p, 16)
	elder.Number = 2
	goesWell(t, "P11.3", func() {
		elder.Scan()
		for _, n := range []int{1, 1, 1, 2, 3} {
			elder.Append(text('e', n))
		}
	})
	for n := 1; n < 14; n++ {
		s := segOf(t, p, 16)
		s.Number = uint64(2 + n)
		goesWell(t, "P11.3", func() {
			if l := s.Scan(); len(l) != 0 || s.At != 1 {
				t.Errorf("P11.3: elder groups are found: %v, the next one at %d", l, s.At)
			}
			s.Append(text('n', n))
			if l := s.Scan(); !slices.Equal(l, []int{1}) || s.At != n+2 {
				t.Errorf("P11.3: behind one of %d sectors: %v, the next one at %d", n, l, s.At)
			}
		})
	}
}

// Two segments, side by side: none has the other's groups.
func TestTwoSegments(t *testing.T) {
	p := newPool(t)
	m := mediumOf(t, p)
	s := &Seg{M: m, Cache: 1, Join: 2, Number: 3, Base: 1, Per: 8, At: 1}
	u := &Seg{M: m, Cache: 1, Join: 2, Number: 4, Base: 9, Per: 8, At: 1}
	goesWell(t, "P11.1", func() {
		s.Append(text('a', 2))
		u.Append(text('b', 3))
		s.Append(text('c', 3))
		u.Append(text('d', 2))
		if l := s.Scan(); !slices.Equal(l, []int{1, 4}) || s.Read(1, 2) != text('a', 2) || s.Read(4, 3) != text('c', 3) {
			t.Errorf("P11.1: the first one: %v", l)
		}
		if l := u.Scan(); !slices.Equal(l, []int{1, 5}) || u.Read(1, 3) != text('b', 3) || u.Read(5, 2) != text('d', 2) {
			t.Errorf("P11.1: the second one: %v", l)
		}
	})
}

// A list that was answered is the caller's.
func TestScanAnswersNew(t *testing.T) {
	p := newPool(t)
	s := segOf(t, p, 8)
	goesWell(t, "P11.1", func() {
		s.Scan()
		s.Append(text('a', 1))
		s.Append(text('b', 1))
		l := s.Scan()
		l[0], l[1] = 77, 78
		if l = s.Scan(); !slices.Equal(l, []int{1, 3}) {
			t.Errorf("P11.1: %v", l)
		}
	})
}

// Of a device that is gone, or a pool that is down, each call is broken off.
func TestGone(t *testing.T) {
	p := newPool(t)
	s := segOf(t, p, 8)
	goesWell(t, "P11.1", func() { s.Scan(); s.Append(text('a', 1)) })
	p.Detach(device)
	for what, do := range map[string]func(){
		"Append": func() { s.Append(text('b', 1)) },
		"Scan":   func() { s.Scan() },
		"Read":   func() { s.Read(1, 1) },
	} {
		if b, is := medium.Guard(do); !is || b != (medium.Broken{Serial: device, Err: api.ErrGone}) || s.At != 3 {
			t.Errorf("P11.2: %s of a device that is gone: %v, %v; the next one at %d", what, b, is, s.At)
		}
	}
	p.Attach(device)
	areFound(t, "P11.2: it is back", p, 8, text('a', 1))
}
