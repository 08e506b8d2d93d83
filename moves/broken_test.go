package moves

import (
	"fmt"
	"slices"
	"testing"

	"bandolier/api"
	"bandolier/crew"
	"bandolier/mend"
	"bandolier/mutate"
	"bandolier/rank"
)

// A breach is how a Step is broken off: a device's operation behind after further
// ones fails (done or not), or all halts there (device 0); the anchor's operation
// behind anchorAfter ones fails, too (below 0: it doesn't).
type breach struct {
	device, after int
	done          bool
	anchorAfter   int
}

func (g *ground) strikes(b breach) {
	if b.device == 0 {
		g.p.Halt(b.after)
	} else {
		g.p.Arm(b.device, b.after, b.done)
	}
	if b.anchorAfter >= 0 {
		g.p.Arm(anchor, b.anchorAfter, b.done)
	}
}

func breaches(after int, devices ...int) []breach {
	l := []breach{{0, after, false, -1}, {anchor, after, false, -1}, {anchor, after, true, -1}}
	for _, device := range devices {
		for _, anchorAfter := range []int{-1, 0, 1} {
			l = append(l, breach{device, after, false, anchorAfter}, breach{device, after, true, anchorAfter})
		}
	}
	return l
}

// A scene is a key, who is asked for it in which order, and what they have of it;
// it belongs to all of them.
type scene struct {
	order []int
	have  string
}

var scenes = []scene{
	{[]int{4, 2, 5, 3}, "3:v1"},
	{[]int{2, 3, 4, 5}, "5:v1o"},
	{[]int{5, 4, 3, 2}, "4:v1 3:v1"},
	{[]int{3, 5, 2, 4}, "2:t1 3:v1h 4:v1 5:v1h"},
	{[]int{2, 5, 3, 4}, "2:v1 3:v1 5:v1"},
}

func (s scene) make(t *testing.T) (*ground, string) {
	t.Helper()
	key := keyOf(t, s.order...)
	g := newGroundOf(t, 4, 4, 33, 8)
	g.lays("zz", "2:v1 3:v1 4:v1 5:v1") // another one, which isn't short
	g.lays(key, s.have)
	return g, key
}

// A device fails, at any operation of a Step, whichever it is: it is out, and the
// Step ends; or the crew is stopped.
func TestStepBroken(t *testing.T) {
	told := map[string]int{}
	for _, s := range scenes {
		g, _ := s.make(t)
		count := g.p.Count()
		g.steps()
		operations := g.p.Count() - count
		for after := range operations + 1 {
			for _, b := range breaches(after, 2, 3, 4, 5) {
				g, key := s.make(t)
				g.what = fmt.Sprint(s, ", fails ", b)
				source, ahead := g.source(key), g.hitsAtAll()
				was := g.each(key)
				g.strikes(b)
				if !g.m.Step() {
					t.Fatalf("P21.1: %s: no Step", g.what)
				}
				g.calms()
				g.noneElse(ahead)
				switch {
				case g.c.Stopped():
					told["stopped"]++
					g.members("P21.1", 2, 3, 4, 5)
					g.rests("P21.1")
				case g.c.Outs() == 0:
					told["well"]++
					g.isSettled()
				case b.device == source:
					told["source"]++
					g.isOut(b.device)
					g.isAs(was, key, func(n int) bool { return false })
				default:
					told["target"]++
					g.isOut(b.device)
					g.isAs(was, key, func(n int) bool { return n < b.device })
				}
				g.goesOn(key, b)
			}
		}
	}
	for how, least := range map[string]int{"stopped": 200, "well": 200, "source": 5, "target": 100} {
		if told[how] < least {
			t.Errorf("P21.1: Steps ended so: %v", told)
		}
	}
}

// source answers who is read.
func (g *ground) source(key string) int {
	for _, n := range rank.Order(key, g.c.Members()) {
		if g.holds(n, key) {
			return n
		}
	}
	return 0
}

// each answers what each member has of a key.
func (g *ground) each(key string) map[int]string {
	m := map[int]string{}
	for _, n := range g.c.Members() {
		if x, is := g.c.Store(n).Get(key); is {
			m[n] = slotText(x)
		}
	}
	return m
}

// isAs: all have of a key what they had, but those that were to get it, and did.
func (g *ground) isAs(was map[int]string, key string, did func(n int) bool) {
	g.t.Helper()
	value := ""
	for _, text := range was {
		if text == "v1" || text == "v1o" {
			value = text
		}
	}
	for _, n := range g.c.Members() {
		want := was[n]
		if did(n) {
			want = value
		}
		if got := g.each(key)[n]; got != want {
			g.t.Fatalf("P21.1: %s: %d has %q, not %q", g.what, n, got, want)
		}
	}
}

// isOut: who failed, and nobody else, is out, in the anchor, too.
func (g *ground) isOut(serial int) {
	g.t.Helper()
	left := slices.DeleteFunc(serials(2, 5), func(n int) bool { return n == serial })
	g.members("P21.1", left...)
	if g.c.Outs() != 1 || g.c.Changes() != 1 {
		g.t.Fatalf("P21.1: %s: %d outs, %d changes", g.what, g.c.Outs(), g.c.Changes())
	}
	c, e := crew.Open(g.p, g.c.Config())
	if e != api.OK || !slices.Equal(c.Roster().All(), left) {
		g.t.Fatalf("P21.1: %s: the anchor says %v, %v", g.what, c.Roster().All(), e)
	}
}

// goesOn: behind a failure the key is tried anew, of those that are left; and
// behind a crash, and an Open, too.
func (g *ground) goesOn(key string, b breach) {
	g.t.Helper()
	if !g.c.Stopped() {
		held := g.source(key) != 0
		if n := g.settles(); n > 1 {
			g.t.Fatalf("P21.1: %s: it takes %d Steps more", g.what, n)
		}
		if held && g.source(key) == 0 {
			g.t.Fatalf("P21.1: %s: the key is given up", g.what)
		}
	}
	g.p.Crash(b.after%2, 1, b.device%2, 0, 1)
	c, tombs, e := mend.Open(g.p, g.c.Config())
	if e != api.OK || tombs != 0 || !mutate.Whole(c) {
		g.t.Fatalf("P21.3: %s: Open: %d tombs, %v", g.what, tombs, e)
	}
	g.c, g.m = c, New(c)
	for _, version := range g.hits(0) {
		if version != 1 {
			g.t.Fatalf("P21.3: %s: version %d", g.what, version)
		}
	}
	g.settles()
	g.reads()
}

// Several fail, one a Step, till one is left.
func TestFailOneByOne(t *testing.T) {
	key := keyOf(t, 4, 5, 3, 2)
	g := newGround(t, 4, 4)
	g.lays(key, "2:v1 4:v1")
	g.lays("zz", "2:v1 3:v1 4:v1 5:v1")
	for _, n := range []int{3, 4, 5} {
		g.p.Arm(n, 0, false)
	}
	g.steps() // who is read fails
	g.members("P21.1", 2, 3, 5)
	g.hold("P21.1", key, "2:v1")
	g.steps() // the first one that is written to fails
	g.members("P21.1", 2, 5)
	g.hold("P21.1", key, "2:v1")
	g.steps()
	g.members("P21.1", 2)
	g.hold("P21.1", key, "2:v1")
	g.isSettled()
	g.reads()
}

// The only one that has it fails: it is nowhere any more.
func TestOnlyOneFails(t *testing.T) {
	g := newGround(t, 2, 3)
	g.lays("a", "3:v1 4:v1h")
	g.p.Detach(3)
	g.steps()
	g.members("P21.1", 2, 4)
	g.hold("P21.1", "a", "4:v1h")
	g.isSettled()
}

// Who is neither read nor written to may be away: it stays a member.
func TestNotAsked(t *testing.T) {
	key := keyOf(t, 2, 4, 3, 5)
	g := newGround(t, 2, 4)
	g.lays(key, "3:v1 4:v1 5:v1")
	g.p.Detach(3)
	g.p.Detach(5)
	g.steps()
	g.hold("P21.1", key, "2:v1 3:v1 4:v1 5:v1")
	g.members("P21.1", 2, 3, 4, 5)

	g.lays(key, "2:t1") // short again: it is hidden, which takes no device
	g.p.Detach(2)
	g.p.Detach(4)
	g.steps()
	g.hold("P21.1", key, "2:t1 3:v1h 4:v1h 5:v1h")
	g.members("P21.1", 2, 3, 4, 5)
	g.rests("P21.1")
}

// Who is to go goes, away or not.
func TestAwayLeaves(t *testing.T) {
	g := newGround(t, 2, 3)
	g.lays("a", "2:v1 3:v1 4:v1")
	g.ok("Drain", g.c.Drain(3))
	g.p.Detach(3)
	g.p.Detach(4)
	g.steps()
	g.members("P21.1", 2, 4)
	if g.c.Outs() != 0 || g.c.Stopped() {
		t.Errorf("P21.1: %d were out", g.c.Outs())
	}
	g.rests("P21.1")
}

// The anchor fails, at any operation of a leaving: the crew is stopped, and that
// was a Step.
func TestLeavingBroken(t *testing.T) {
	told := map[bool]int{}
	for after := range 12 {
		for _, done := range []bool{false, true} {
			for _, halts := range []bool{false, true} {
				g := newGround(t, 1, 3)
				g.what = fmt.Sprint("fails behind ", after, done, halts)
				key := keyOf(t, 3)
				g.lays(key, "3:v1")
				g.ok("Drain", g.c.Drain(2))
				g.ok("Drain", g.c.Drain(4))
				if halts {
					g.p.Halt(after)
				} else {
					g.p.Arm(anchor, after, done)
				}
				g.steps()
				g.calms()
				told[g.c.Stopped()]++
				if g.c.Stopped() {
					g.members("P21.1", 2, 3, 4)
					g.rests("P21.1")
				} else {
					g.members("P21.1", 3, 4)
				}
				g.p.Crash()
				c, _, e := mend.Open(g.p, g.c.Config())
				g.ok("Open", e)
				if n := len(c.Members()); n != 2 && n != len(g.c.Members()) {
					t.Errorf("P21.1: %s: the anchor says %v", g.what, c.Members())
				}
				g.c, g.m = c, New(c)
				g.settles()
				g.members("P21.2", 3)
				g.reads()
			}
		}
	}
	if told[true] < 10 || told[false] < 10 {
		t.Errorf("P21.1: leavings ended so: %v", told)
	}
}
