package mend

import (
	"fmt"
	"slices"
	"strings"
	"testing"

	"bandolier/api"
	"bandolier/crew"
	"bandolier/fetch"
	"bandolier/flash"
	"bandolier/medium"
	"bandolier/mutate"
	"bandolier/roster"
	"bandolier/slots"
	"bandolier/store"
)

// What members have of a key; what they have behind Order; the tombs.
var constellations = []struct {
	ahead, behind string
	tombs         int
}{
	{"", "", 0},
	{"2:v1", "2:v1", 0},
	{"2:t1", "2:t1", 0},
	{"2:v1h", "2:v1h", 0},
	{"2:v1 3:v1 4:v1", "2:v1 3:v1 4:v1", 0},
	{"2:v1 3:t1", "2:v1 3:t1", 0},
	{"2:v5 3:t4 4:t1", "2:v5 3:t4 4:t1", 0},
	{"2:t1 3:t2 4:t3", "2:t1 3:t2 4:t3", 0},
	{"2:v2 3:v1", "2:v2 3:t2", 1},
	{"2:v1 3:v2", "2:t2 3:v2", 1},
	{"2:t2 4:v1", "2:t2 4:t2", 1},
	{"2:v1 4:t2", "2:t2 4:t2", 1},
	{"2:v1 3:v2h", "2:t2 3:v2h", 1},
	{"2:v1h 3:v2", "2:t2 3:v2", 1},
	{"2:v1h 3:t2", "2:t2 3:t2", 1},
	{"2:v1h 3:v1 4:v2h", "2:t2 3:t2 4:v2h", 2},
	{"2:v1 3:v2 4:v3", "2:t3 3:t3 4:v3", 2},
	{"2:v3 3:v2 4:v1", "2:v3 3:t3 4:t3", 2},
	{"2:v3 3:v3 4:v1", "2:v3 3:v3 4:t3", 1},
	{"2:v3 3:t3 4:v1", "2:v3 3:t3 4:t3", 1},
	{"2:t9 3:v3 4:v3", "2:t9 3:t9 4:t9", 2},
	{"2:t2 3:v3 4:v1", "2:t2 3:v3 4:t3", 1},
	{"2:v9223372036854775806 3:v9223372036854775807", "2:t9223372036854775807 3:v9223372036854775807", 1},
}

func TestOrder(t *testing.T) {
	for _, x := range constellations {
		g := newGround(t, 2, 3)
		g.what = x.ahead
		g.laysAs("a", x.ahead)
		g.orders(x.tombs)
		g.hold("P20.1", "a", x.behind)
		g.p.Crash()
		if n := g.opens(); n != 0 {
			t.Errorf("P20.1: %s: the tombs weren't all: %d more", g.what, n)
		}
		g.hold("P20.1", "a", strings.ReplaceAll(x.behind, "h", ""))
	}
}

// All of them at once, of many keys, by an Open: what the crew's Open doesn't.
func TestOpenOrders(t *testing.T) {
	g := newGroundOf(t, crew.Config{Anchor: anchor, Copies: 2, Per: 16}, 16*20+1, 3)
	tombs := 0
	for i, x := range constellations {
		g.laysAs(fmt.Sprint("k", i), x.ahead)
		tombs += x.tombs
	}
	c, e := crew.Open(g.p, g.c.Config())
	if e != api.OK || mutate.Whole(c) {
		t.Fatalf("the crew's Open: %v", e)
	}
	if n := g.opens(); n != tombs {
		t.Errorf("P20.2: %d tombs, not %d", n, tombs)
	}
	for i, x := range constellations {
		g.what = x.ahead
		g.hold("P20.2", fmt.Sprint("k", i), strings.ReplaceAll(x.behind, "h", ""))
	}
	g.isOrdered()
	g.opensAsItWas()
}

// One that is to go is a holder as the others are; one that left isn't.
func TestWhoCounts(t *testing.T) {
	g := newGround(t, 2, 4)
	g.laysAs("a", "2:v1 3:v2 4:t3 5:v1")
	g.laysAs("b", "2:v1 3:v2")
	g.goes(g.c.Drain(3))
	g.goes(g.c.Leave(4))
	g.orders(3)
	g.hold("P20.1", "a", "2:t2 3:v2 5:t2")
	g.hold("P20.1", "b", "2:t2 3:v2")
	for _, n := range []int{2, 3, 5} {
		g.goes(g.c.Leave(n))
	}
	g.orders(0)
}

func (g *ground) goes(e api.Errno) {
	g.t.Helper()
	if e != api.OK {
		g.t.Fatalf("%s: %v", g.what, e)
	}
}

// Key by key, rising: where it is broken off, the lesser keys have theirs.
func TestRising(t *testing.T) {
	keys := []string{"", "A", "B", "a", "aa", "b", "\xff"}[1:]
	make := func() *ground {
		g := newGroundOf(t, crew.Config{Anchor: anchor, Copies: 2, Per: 16}, 65, 3)
		for i := range keys {
			key := keys[(i*5+2)%len(keys)]
			g.laysAs(key, "2:v1 3:v2 4:v1")
		}
		return g
	}
	reached := map[int]int{}
	for after := range 100 {
		g := make()
		g.what = fmt.Sprint("halts behind ", after)
		stores := g.stores()
		g.p.Halt(after)
		n, well := Order(g.c)
		if well != (n == 2*len(keys)) {
			t.Fatalf("P20.1: %s: %d, %v", g.what, n, well)
		}
		if well {
			break
		}
		if n != 0 {
			t.Errorf("P20.1: %s: %d tombs, but it is stopped", g.what, n)
		}
		tombs := 0
		for _, key := range keys {
			more := tombsIn(stores, key)
			if more > 0 && tombs%2 == 1 {
				t.Errorf("P20.1: %s: %q has a tomb, though one ahead of it hasn't both", g.what, key)
			}
			if more > 0 && tombs < 2*slices.Index(keys, key) {
				t.Errorf("P20.1: %s: %q has a tomb ahead of lesser keys", g.what, key)
			}
			tombs += more
		}
		reached[tombs]++
	}
	if len(reached) != 2*len(keys) {
		t.Errorf("P20.1: broken off with so many tombs, so often: %v", reached)
	}
}

// stores answers all members' stores: also who is out later has its slots there.
func (g *ground) stores() []*store.Store {
	var l []*store.Store
	for _, n := range g.c.Members() {
		l = append(l, g.c.Store(n))
	}
	return l
}

// tombsIn: how many of them have a tomb of a key?
func tombsIn(stores []*store.Store, key string) int {
	n := 0
	for _, s := range stores {
		if strings.HasPrefix(has(s, key), "t") {
			n++
		}
	}
	return n
}

// A tomb may need room, and what made another key's value an elder one may go
// for it: that value is over all the same.
func TestRoomForTombs(t *testing.T) {
	g := newGroundOf(t, crew.Config{Anchor: anchor, Copies: 2, Per: 8}, 17, 3)
	g.laysAs("b", "2:v1 3:v2")
	g.laysAs("a", "3:v1 4:v2")
	g.laysAs("z", "3:v3")
	if s := g.c.Store(3); s.Evicted() != 0 {
		t.Fatalf("there is no room for more")
	}
	g.orders(2)
	if s := g.c.Store(3); s.Evicted() == 0 {
		t.Fatalf("there is room enough")
	}
	g.hold("P20.1", "a", "3:t2 4:v2")
	g.hold("P20.1", "b", "2:t2")
}

// A crew that is Whole gets nothing: nothing is read or written.
func TestWhole(t *testing.T) {
	g := newGround(t, 2, 4)
	g.isOrdered()
	for i := range 60 {
		key := fmt.Sprint("k", i*i%7)
		g.what = fmt.Sprint("step ", i)
		if i%4 == 3 {
			g.goes(mutate.Drop(g.c, key))
		} else {
			g.puts(key, strings.Repeat("v", i))
		}
		g.c.Store(2 + i%4).Hide(fmt.Sprint("k", i%7))
		before := g.sectors()
		g.isOrdered()
		if g.sectors() != before {
			t.Errorf("P20.1: %s: it is Whole, but Order writes", g.what)
		}
	}
}

// A stopped crew: nothing is done, Whole or not.
func TestStopped(t *testing.T) {
	for _, ahead := range []string{"", "2:v1 3:v2"} {
		g := newGround(t, 2, 3)
		g.laysAs("a", ahead)
		g.p.Arm(anchor, 0, false)
		if e := g.c.Leave(4); e != api.ErrUnavailable {
			t.Fatalf("Leave: %v", e)
		}
		g.isStopped()
		g.hold("P20.1", "a", ahead)
	}
}

// isNone: an Open answers that error, and nothing beside it.
func (g *ground) isNone(cfg crew.Config, want api.Errno) {
	g.t.Helper()
	if c, n, e := Open(g.p, cfg); c != nil || n != 0 || e != want {
		g.t.Errorf("P20.2: %s: Open: %v, %d, %v, not %v", g.what, c != nil, n, e, want)
	}
}

// Each error of the crew's Open.
func TestOpenErrors(t *testing.T) {
	config := crew.Config{Anchor: anchor, Copies: 2, Per: 8}
	g := newGround(t, 2, 2)
	g.what = "a configuration that may not be"
	for _, x := range [][3]int{{}, {-1, 2, 8}, {1, 0, 8}, {1, 5, 8}, {1, 2, 7}, {1, 2, 65}, {1001, 2, 8}} {
		g.isNone(crew.Config{Anchor: x[0], Copies: x[1], Per: x[2]}, api.ErrConfig)
	}
	g.what = "no such anchor"
	g.isNone(crew.Config{Anchor: 9, Copies: 2, Per: 8}, api.ErrGone)
	g.p.Add(8, 31)
	g.what = "a small anchor"
	g.isNone(crew.Config{Anchor: 8, Copies: 2, Per: 8}, api.ErrSize)
	g.p.Add(9, 32)
	g.what = "an anchor without a text"
	g.isNone(crew.Config{Anchor: 9, Copies: 2, Per: 8}, api.ErrNone)
	g.what = "an anchor's text that is no roster"
	g.says(9, "no roster")
	g.isNone(crew.Config{Anchor: 9, Copies: 2, Per: 8}, api.ErrForm)
	g.says(9, roster.Roster{Cache: 1}.Pack())
	g.what = "no members"
	if c, n, e := Open(g.p, crew.Config{Anchor: 9, Copies: 2, Per: 8}); c == nil || n != 0 || e != api.OK {
		t.Errorf("P20.2: %s: %d, %v", g.what, n, e)
	}
	g.what = "the anchor fails"
	for after := range 32 {
		g.p.Arm(anchor, after, after%2 == 0)
		g.isNone(config, api.ErrIO)
	}
	g.p.Arm(anchor, 32, false)
	g.isNone(config, api.ErrUnavailable)
	g.p.Detach(anchor)
	g.what = "the anchor is away"
	g.isNone(config, api.ErrGone)
	g.p.Attach(anchor)
	g.what = ""
	g.opens()
}

// says lets an anchor have a text.
func (g *ground) says(serial int, text string) {
	g.t.Helper()
	m, e := medium.Of(g.p, serial)
	if e != api.OK {
		g.t.Fatalf("%s: %v", g.what, e)
	}
	if b, is := medium.Guard(func() {
		s, _, _ := slots.Open(m)
		s.Write(text)
	}); is {
		g.t.Fatalf("%s: %v", g.what, b)
	}
}

// The configuration is the crew's: copies and all.
func TestOpenAs(t *testing.T) {
	g := newGround(t, 2, 3)
	g.puts("a", "x")
	c, n, e := Open(g.p, crew.Config{Anchor: anchor, Copies: 4, Per: 8})
	if e != api.OK || n != 0 || c.Config() != (crew.Config{Anchor: anchor, Copies: 4, Per: 8}) {
		t.Fatalf("P20.2: %d, %v", n, e)
	}
	if v, is := c.Version(); v != 64 || !is {
		t.Errorf("P20.2: the version is %d, %v", v, is)
	}
	c, _, e = Open(g.p, crew.Config{Anchor: anchor, Copies: 2, Per: 9})
	if e != api.OK || len(c.Members()) != 0 {
		t.Errorf("P20.2: members of another Per: %v, %v", c.Members(), e)
	}
}

// The chapter's example: of each two devices that a key belongs to.
func TestExample(t *testing.T) {
	g := newGround(t, 2, 2)
	g.puts("a", "x")
	g.p.Halt(4)
	if _, e := mutate.Put(g.c, "a", "y", 0); e != api.ErrUnavailable {
		t.Fatalf("Put: %v", e)
	}
	g.p.Crash()
	if n := g.opens(); n != 1 {
		t.Errorf("P20.2: %d tombs", n)
	}
	g.hold("P20.2", "a", "2:v2 3:t2")
	if v, is, _ := fetch.Get(g.c, "a", 0); v != "y" || !is {
		t.Errorf("P20.2: %q, %v", v, is)
	}
}

// An Open that puts no tomb has few operations: of devices and segments of all
// sizes, empty or full, of one member and of as many as there may be.
func TestOperations(t *testing.T) {
	for _, x := range []struct{ per, sectors, members, entries int }{
		{8, 17, 1, 0}, {8, 17, 1, 100}, {8, 24, 1, 9}, {8, 33, 16, 0}, {8, 33, 16, 200}, {8, 17, 16, 60},
		{64, 129, 1, 300}, {64, 129, 16, 300}, {64, 4096, 2, 500}, {8, 4096, 2, 2000}, {9, 1000, 3, 900}, {8, 4096, 16, 10},
	} {
		for _, size := range []int{0, 41, 50, 104, 300} {
			g := newGroundOf(t, crew.Config{Anchor: anchor, Copies: 4, Per: x.per}, x.sectors, x.members)
			g.what = fmt.Sprint(x, ", values of ", size)
			text := strings.Repeat("v", size)
			if mutate.Room(g.c, "kkkkk", text) {
				for i := range x.entries {
					g.puts(fmt.Sprint("k", i), text)
				}
			}
			g.isQuick(x.sectors * x.members)
			g.p.Crash()
			g.isQuick(x.sectors * x.members)
		}
	}
}

// isQuick: an Open has 100 operations at most, and 4 for each sector.
func (g *ground) isQuick(sectors int) {
	g.t.Helper()
	count := g.p.Count()
	if n := g.opens(); n != 0 {
		g.t.Fatalf("P20.3: %s: %d tombs", g.what, n)
	}
	if n := g.p.Count() - count; n > 100+4*sectors {
		g.t.Errorf("P20.4: %s: %d operations for %d sectors", g.what, n, sectors)
	}
}

// The same where a segment must go, as none is free; with bytes that say
// nothing, or say too much, in each segment.
func TestOperationsOfAny(t *testing.T) {
	g := newGroundOf(t, crew.Config{Anchor: anchor, Copies: 1, Per: 8}, 17, 1)
	g.puts("a", "x")
	for after := 0; ; after++ {
		g.p.Halt(after)
		_, e := mutate.Put(g.c, "b", strings.Repeat("v", 140), 0)
		if e == api.OK {
			break
		}
		g.p.Crash(1, 1, 1, 1, 1, 1, 1, 1)
		g.what = fmt.Sprint("broken off behind ", after)
		g.isQuick(17)
	}
	g.calms()
	h, _ := g.p.Open(2)
	sector, _ := g.p.Read(h, 2) // of a payload: it is none's elsewhere
	for i := 3; i < 17; i++ {
		if i != 9 {
			g.p.Write(h, i, sector)
		}
	}
	g.p.Flush(h)
	g.isQuick(17)
}

func TestNoDevices(t *testing.T) {
	g := &ground{t: t, p: flash.New(), what: "nothing is there"}
	g.isNone(crew.Config{Anchor: anchor, Copies: 2, Per: 8}, api.ErrGone)
	g.isNone(crew.Config{}, api.ErrConfig)
}
