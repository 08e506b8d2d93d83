package fetch

import (
	"fmt"
	"math/rand"
	"slices"
	"testing"

	"bandolier/api"
	"bandolier/mutate"
)

// The first holder fails, at any operation of its being read: it is out, and the
// next one answers; till none is left.
func TestNextOnes(t *testing.T) {
	for _, l := range [][]int{{2, 3, 4, 5}, {5, 4, 3, 2}, {4, 2, 5, 3}} {
		key := keyIn(t, l...)
		for fails := range len(l) + 1 {
			for after := range 3 {
				for _, done := range []bool{false, true} {
					g := newGround(t, 4)
					g.what = fmt.Sprint(l, ", the first ", fails, " fail behind ", after)
					g.laysAll(key, long, l...)
					for _, n := range l[:fails] {
						g.p.Arm(n, after, done)
					}
					v, is, e := Get(g.c, key, 0)
					g.calms()
					if fails == len(l) {
						if v != "" || is || e != api.OK {
							t.Fatalf("P19.1: %s: %q, %v, %v", g.what, v, is, e)
						}
					} else if v != fmt.Sprint("on", l[fails], long) || !is || e != api.OK {
						t.Fatalf("P19.2: %s: %q, %v, %v", g.what, v, is, e)
					}
					g.isOut(l[fails:], fails)
				}
			}
		}
	}
}

// isOut: those are left as members, in the anchor, too; so many were out.
func (g *ground) isOut(left []int, outs int) {
	g.t.Helper()
	left = slices.Sorted(slices.Values(left))
	if !slices.Equal(g.c.Members(), left) || !slices.Equal(g.c.Roster().All(), left) || g.c.Outs() != outs || g.c.Stopped() {
		g.t.Fatalf("P19.3: %s: the members are %v, %d were out", g.what, g.c.Members(), g.c.Outs())
	}
	g.p.Crash()
	if l := g.said(); !slices.Equal(l, left) {
		g.t.Fatalf("P19.3: %s: behind a crash the members are %v", g.what, l)
	}
}

// Who isn't asked may be away, or fail: it stays a member.
func TestNotAsked(t *testing.T) {
	key := keyIn(t, 3, 2, 4)
	g := newGround(t, 3)
	g.laysAll(key, "", 2, 3)
	g.p.Detach(2)
	g.p.Detach(4)
	g.answers("P19.2", key, 0, "on3", true)
	g.p.Detach(3)
	if v, is, e := Get(g.c, key, 0); v != "" || is || e != api.OK {
		t.Errorf("P19.2: %q, %v, %v", v, is, e)
	}
	if l := g.c.Members(); !slices.Equal(l, []int{4}) {
		t.Errorf("P19.3: the members are %v", l)
	}
	g.misses("P19.1", key, 0)
}

// Who can't be read is out, but who is over, hidden, or a tomb, isn't read.
func TestNotRead(t *testing.T) {
	key := keyIn(t, 2, 3, 4, 5)
	g := newGround(t, 4)
	g.laysAll(key, "", 3, 5)
	g.lays(2, value(key, "over", 7))
	g.lays(4, tomb(key))
	g.c.Store(3).Hide(key)
	for n := 2; n < 5; n++ {
		g.p.Arm(n, 0, false)
	}
	g.answers("P19.2", key, 7, "on5", true)
	if g.c.Outs() != 0 {
		t.Errorf("P19.3: %d were out that weren't to be read", g.c.Outs())
	}
	g.p.Arm(5, 0, false)
	if v, is, e := Get(g.c, key, 7); v != "" || is || e != api.OK {
		t.Errorf("P19.2: %q, %v, %v", v, is, e)
	}
	g.isOut([]int{2, 3, 4}, 1)
}

// A holder fails, and the anchor at any operation of its being out: the crew is
// stopped. (Or the anchor fails later, at the next one's being out.)
func TestAnchorFails(t *testing.T) {
	l := []int{4, 2, 3}
	key := keyIn(t, l...)
	told := map[string]int{}
	for fails := range len(l) + 1 {
		for after := range 12 {
			for _, done := range []bool{false, true} {
				g := newGround(t, 3)
				g.what = fmt.Sprint("the first ", fails, " fail, the anchor behind ", after, done)
				g.laysAll(key, long, l...)
				for _, n := range l[:fails] {
					g.p.Arm(n, 1, false)
				}
				g.p.Arm(anchor, after, done)
				v, is, e := Get(g.c, key, 0)
				g.calms()
				switch {
				case e == api.ErrUnavailable && v == "" && !is:
					told["unavailable"]++
					g.isStopped(key, "none", "")
				case e == api.OK && fails < len(l) && v == fmt.Sprint("on", l[fails], long) && is:
					told["hit"]++
					g.isOut(l[fails:], fails)
				case e == api.OK && fails == len(l) && v == "" && !is:
					told["none"]++
					g.isOut(nil, fails)
				default:
					t.Fatalf("P19.1: %s: %q, %v, %v", g.what, v, is, e)
				}
				if after == 0 && (e == api.OK) != (fails == 0) {
					t.Errorf("P19.1: %s: the anchor failed, but %v", g.what, e)
				}
			}
		}
	}
	if told["unavailable"] < 20 || told["hit"] < 20 || told["none"] < 2 {
		t.Errorf("P19.1: Gets ended so: %v", told)
	}
}

// All is down in the midst of a Get: nobody can be read, and the anchor neither.
func TestDown(t *testing.T) {
	for after := range 4 {
		g := newGround(t, 2)
		g.laysAll("a", long, 2, 3)
		g.p.Halt(after)
		v, is, e := Get(g.c, "a", 0)
		if after == 3 {
			if e != api.OK || !is {
				t.Errorf("P19.2: %q, %v, %v", v, is, e)
			}
			continue
		}
		if v != "" || is || e != api.ErrUnavailable {
			t.Errorf("P19.1: down behind %d: %q, %v, %v", after, v, is, e)
		}
		g.p.Crash()
		g.isStopped("a")
	}
}

// A stopped crew: nothing is read, but what there is is told by its slots.
func TestStopped(t *testing.T) {
	g := newGround(t, 3)
	g.laysAll("a", "", 2, 3, 4)
	g.lays(2, value("b", "x", 5))
	g.p.Arm(anchor, 0, false)
	if e := g.c.Leave(4); e != api.ErrUnavailable {
		t.Fatalf("Leave: %v", e)
	}
	g.isStopped("a", "b", "none", "")
	if !Hits(g.c, "a", 0) || !Hits(g.c, "b", 4) || Hits(g.c, "b", 5) || Hits(g.c, "none", 0) {
		t.Errorf("P19.1: Hits of a stopped crew")
	}
	if l := Keys(g.c); !slices.Equal(l, []string{"a", "b"}) {
		t.Errorf("P19.1: the keys of a stopped crew are %q", l)
	}
}

// Courses of Puts, Drops, Gets and failures: what was put last is answered as
// long as one that holds it can be read; nothing else ever is.
func TestCourses(t *testing.T) {
	r := rand.New(rand.NewSource(19))
	for range 150 {
		g := newGround(t, 5)
		last := map[string]string{} // no text: it was dropped
		for step := range 40 {
			key := fmt.Sprint("k", r.Intn(5))
			g.what = fmt.Sprint("step ", step)
			switch r.Intn(8) {
			case 0:
				if e := mutate.Drop(g.c, key); e != api.OK {
					t.Fatalf("%s: Drop: %v", g.what, e)
				}
				last[key] = ""
			case 1:
				g.p.Arm(2+r.Intn(5), r.Intn(4), r.Intn(2) == 0)
			case 2:
				if r.Intn(4) == 0 {
					g.p.Detach(2 + r.Intn(5))
				}
			case 3, 4:
				text := fmt.Sprint("v", step, long[:r.Intn(150)])
				o, e := mutate.Put(g.c, key, text, 0)
				if e != api.OK {
					t.Fatalf("%s: Put: %v", g.what, e)
				}
				last[key] = text
				if o == mutate.Dropped {
					last[key] = ""
				}
			}
			g.gets(key, last[key])
		}
	}
}

// gets: a hit is what was put last. It misses only when all that held it are
// out.
func (g *ground) gets(key, last string) {
	g.t.Helper()
	held := Hits(g.c, key, 0)
	v, is, e := Get(g.c, key, 0)
	switch {
	case e != api.OK:
		g.t.Fatalf("P19.1: %s: %v", g.what, e)
	case is && (v != last || last == ""):
		g.t.Fatalf("P19.2: %s: %q, but %q was put last", g.what, v, last)
	case is && !held:
		g.t.Fatalf("P19.1: %s: Get hits what Hits doesn't", g.what)
	case !is && Hits(g.c, key, 0):
		g.t.Fatalf("P19.2: %s: somebody holds it, but Get misses", g.what)
	}
	for _, n := range g.c.Members() {
		if x, there := g.c.Store(n).Get(key); !is && there && x.Kind == 1 {
			g.t.Fatalf("P19.2: %s: %d holds it, but Get misses", g.what, n)
		}
	}
}
