package seglog

import (
	"encoding/binary"
	"fmt"
	"hash/crc32"
	"slices"
	"testing"

	"bandolier/api"
	"bandolier/flash"
	"bandolier/medium"
)

const (
	device      = 4
	cache, join = 11, 22
)

// castagnoli: the sum, by another's hand.
var castagnoli = crc32.MakeTable(crc32.Castagnoli)

// headOf: a Head's sector, by the words of layer 8's table.
func headOf(cache, join, number uint64, free bool) string {
	b := []byte{0x48}
	for _, x := range []uint64{cache, join, number} {
		b = binary.BigEndian.AppendUint64(b, x)
	}
	if free {
		b = append(b, 1)
	}
	b = append(b, make([]byte, 60-len(b))...)
	return string(binary.BigEndian.AppendUint32(b, crc32.Checksum(b, castagnoli)))
}

// numberOf: of a Head of the log's Cache and Join, which s is (0: it isn't).
func numberOf(s string) uint64 {
	n := binary.BigEndian.Uint64([]byte(s[17:25]))
	if s == headOf(cache, join, n, false) || s == headOf(cache, join, n, true) {
		return n
	}
	return 0
}

// text: a payload of n sectors, which is another one for another name.
func text(name, n int) string {
	b := make([]byte, 63*n)
	for i := range b {
		b[i] = byte(name + i*(1+name>>8))
	}
	return string(b)
}

// A ground is a device with a log on it.
type ground struct {
	t         *testing.T
	p         *flash.Pool
	segs, per int
	what      string
}

func newGround(t *testing.T, segs, per int) *ground {
	t.Helper()
	p := flash.New()
	if e := p.Add(device, 1+segs*per); e != api.OK {
		t.Fatalf("Add: %v", e)
	}
	return &ground{t: t, p: p, segs: segs, per: per}
}

func (g *ground) medium() *medium.Medium {
	g.t.Helper()
	m, e := medium.Of(g.p, device)
	if e != api.OK {
		g.t.Fatalf("Of: %v", e)
	}
	return m
}

// goesWell does do within a Guard, of which nothing is to come up.
func (g *ground) goesWell(do func()) {
	g.t.Helper()
	if b, is := medium.Guard(do); is {
		g.t.Fatalf("P12.1: %s: broken off: %v", g.what, b)
	}
}

// sectors reads some, by no layer above the medium.
func (g *ground) sectors(from, n int) string {
	g.t.Helper()
	s, m := "", g.medium()
	g.goesWell(func() { s = m.Read(from, n) })
	return s
}

// lay writes sectors, for sure.
func (g *ground) lay(from int, s string) {
	g.t.Helper()
	m := g.medium()
	g.goesWell(func() { m.Write(from, s); m.Flush() })
}

// head: the first sector of a segment.
func (g *ground) head(seg int) string { g.t.Helper(); return g.sectors(1+seg*g.per, 1) }

// most: the greatest Number of any Head of this Cache and Join that stands there.
func (g *ground) most() uint64 {
	g.t.Helper()
	var n uint64
	for seg := range g.segs {
		n = max(n, numberOf(g.head(seg)))
	}
	return n
}

func (g *ground) open() (*Log, []Loc) {
	g.t.Helper()
	var l *Log
	var locs []Loc
	m := g.medium()
	g.goesWell(func() { l, locs = Open(m, cache, join, g.segs, g.per) })
	return l, locs
}

// A model is what a log has, as plain data.
type model struct {
	segs, per int
	live      []int // the current one last
	groups    [][]string
}

func newModel(segs, per int) *model {
	return &model{segs: segs, per: per, groups: make([][]string, segs)}
}

func (m *model) clone() *model {
	x := *m
	x.live = slices.Clone(m.live)
	x.groups = slices.Clone(m.groups)
	for i, l := range x.groups {
		x.groups[i] = slices.Clone(l)
	}
	return &x
}

func (m *model) current() int { return m.live[len(m.live)-1] }

// end: where the next group of a segment comes.
func (m *model) end(seg int) int {
	at := 1
	for _, x := range m.groups[seg] {
		at += 1 + len(x)/63
	}
	return at
}

func (m *model) room(n int) bool {
	return len(m.live) > 0 && n >= 1 && n < m.per && m.end(m.current())+n < m.per
}

func (m *model) start() bool {
	for seg := range m.segs {
		if !slices.Contains(m.live, seg) {
			m.live = append(m.live, seg)
			m.groups[seg] = nil
			return true
		}
	}
	return false
}

func (m *model) reclaim(seg int) bool {
	if !slices.Contains(m.live, seg) || m.current() == seg {
		return false
	}
	m.live = slices.DeleteFunc(m.live, func(x int) bool { return x == seg })
	m.groups[seg] = nil
	return true
}

func (m *model) append(x string) Loc {
	seg := m.current()
	loc := Loc{seg, m.end(seg), len(x) / 63}
	m.groups[seg] = append(m.groups[seg], x)
	return loc
}

// all: its groups, segment by segment, and their payloads.
func (m *model) all() ([]Loc, []string) {
	var locs []Loc
	var payloads []string
	for _, seg := range m.live {
		at := 1
		for _, x := range m.groups[seg] {
			locs = append(locs, Loc{seg, at, len(x) / 63})
			payloads = append(payloads, x)
			at += 1 + len(x)/63
		}
	}
	return locs, payloads
}

// differs: in what has the log something else than the model? "": in nothing.
func (g *ground) differs(l *Log, m *model) string {
	g.t.Helper()
	if !slices.Equal(l.Live(), m.live) || l.Free() != m.segs-len(m.live) {
		return fmt.Sprintf("live are %v, free %d, not %v, %d", l.Live(), l.Free(), m.live, m.segs-len(m.live))
	}
	for n := -1; n <= m.per+1; n++ {
		if l.Room(n) != m.room(n) {
			return fmt.Sprintf("Room(%d) is %v", n, l.Room(n))
		}
	}
	locs, payloads := m.all()
	bad := ""
	g.goesWell(func() {
		for i, x := range locs {
			if l.Read(x) != payloads[i] {
				bad = fmt.Sprintf("another payload is read at %v", x)
			}
		}
	})
	return bad
}

// opensAs: opened anew, the log is one of these; which one.
func (g *ground) opensAs(promise string, models ...*model) int {
	g.t.Helper()
	l, locs := g.open()
	var bad string
	for i, m := range models {
		want, _ := m.all()
		bad = g.differs(l, m)
		if !slices.Equal(locs, want) {
			bad = fmt.Sprintf("groups at %v, not %v", locs, want)
		}
		if bad == "" {
			return i
		}
	}
	g.t.Fatalf("%s: %s: %s (live %v, groups %v)", promise, g.what, bad, l.Live(), locs)
	return -1
}
