package crew

import (
	"fmt"
	"math"
	"math/rand"
	"slices"
	"testing"

	"bandolier/api"
	"bandolier/medium"
	"bandolier/roster"
	"bandolier/store"
)

func TestDo(t *testing.T) {
	g := newGround(t, 2, 3, 4)
	c := g.formats(2, 3)
	for n := -2; n <= 1002; n++ {
		var got *store.Store
		called := 0
		is := c.Do(n, func(s *store.Store) { got, called = s, called+1 })
		member := n == 2 || n == 3
		if is != member || called != 1 && member || called > 0 && !member || got != c.Store(n) {
			t.Errorf("P17.1: Do of %d: %v, do was called %d times", n, is, called)
		}
	}
	for _, n := range []int{math.MinInt, math.MaxInt} {
		if c.Do(n, func(*store.Store) {}) || c.Store(n) != nil {
			t.Errorf("P17.1: Do of %d", n)
		}
	}
	for n, want := range map[int]bool{2: true, 4: false, anchor: false} {
		if c.Do(n, nil) != want {
			t.Errorf("P1: Do of %d, of no do", n)
		}
	}
	g.puts(c, 2, "a", 1)
	g.holds("P17.1", c, 2, "a")
	g.holds("P17.1", c, 3)
	g.isMade("P17.1", c, 2, 3)
	g.isCounted(c, 0, 0)
}

// A device that fails at any operation within do is out; do ends there.
func TestDoBroken(t *testing.T) {
	outs := 0
	brokenOff(func() *scene {
		g := newGround(t, 2, 3)
		return &scene{g, g.formats(2, 3)}
	}, func(s *scene) {
		before, ended := s.c.Changes(), false
		is := s.c.Do(3, func(x *store.Store) {
			for i := range 4 {
				putting(fmt.Sprint("k", i), uint64(i+1))(x)
				x.Read("k0")
			}
			ended = true
		})
		if is != ended || is && s.c.Changes() != before {
			s.t.Errorf("P17.4: %s: Do answers %v, do ended: %v", s.what, is, ended)
		}
	}, func(s *scene, b breach) {
		if b.halt && s.c.Stopped() { // the anchor is down, too
			s.isStopped("P17.4", s.c)
			return
		}
		if s.c.Changes() == 0 {
			s.isMade("P17.1", s.c, 2, 3)
			s.holds("P17.1", s.c, 3, "k0", "k1", "k2", "k3")
			return
		}
		outs++
		s.isMade("P17.4", s.c, 2)
		s.isCounted(s.c, 1, 1)
		s.holds("P17.1", s.c, 2)
		s.p.Crash(choices[outs%len(choices)]...)
		s.isMade("P17.4", s.opens(), 2)
	}, 3)
	if outs < 30 {
		t.Errorf("P17.4: %d were out", outs)
	}
}

// One fails, and the anchor, too: the crew is stopped, and the roster is the
// one that was written last. It isn't known then which one the anchor has.
func TestDoBrokenWithAnchor(t *testing.T) {
	stops := 0
	for after := range 12 {
		for _, done := range []bool{false, true} {
			for _, stays := range choices {
				g := newGround(t, 2, 3, 4)
				g.what = fmt.Sprint("the anchor fails behind ", after, ", ", done)
				c := g.formats(2, 3, 4)
				g.puts(c, 3, "a", 1)
				was := c.Roster()
				g.p.Arm(anchor, after, done)
				g.p.Arm(3, 0, false)
				if c.Do(3, putting("a", 2)) {
					t.Errorf("P17.4: %s: Do answers true", g.what)
				}
				g.calms(anchor)
				if !c.Stopped() {
					g.isMade("P17.4", c, 2, 4)
					g.isCounted(c, 1, 1)
					continue
				}
				stops++
				g.isStopped("P17.4", c)
				if !same(c.Roster(), was) {
					t.Errorf("P17.1: %s: the roster is %v", g.what, c.Roster())
				}
				g.isCounted(c, 0, 0)
				g.hasStores("P17.1", c, 2, 3, 4) // it is a member, and did enter
				g.p.Crash(stays...)
				w := g.opens()
				if l := w.Members(); !slices.Equal(l, []int{2, 4}) && !slices.Equal(l, []int{2, 3, 4}) {
					t.Errorf("P17.4: %s: behind an Open the members are %v", g.what, l)
				}
				g.isMade("P17.4", w, w.Members()...)
				g.isStopped("P17.4", c)
			}
		}
	}
	if stops < 2*len(choices)*3 {
		t.Errorf("P17.4: it was stopped %d times", stops)
	}
}

// Whoever fails within do is out, whose store it is; it is told by the device.
func TestDoOfOthers(t *testing.T) {
	for _, x := range []struct {
		what string
		do   func(c *Crew) func(*store.Store)
		left []int
	}{
		{"another member", func(c *Crew) func(*store.Store) {
			return func(*store.Store) { putting("a", 1)(c.Store(4)) }
		}, []int{2, 3}},
		{"it says so by itself", func(*Crew) func(*store.Store) {
			return func(*store.Store) { medium.Fail(3, api.ErrSum) }
		}, []int{2, 4}},
		{"no member: who is asked counts", func(*Crew) func(*store.Store) {
			return func(*store.Store) { medium.Fail(77, api.ErrIO) }
		}, []int{2, 4}},
		{"within another Do", func(c *Crew) func(*store.Store) {
			return func(s *store.Store) {
				if c.Do(4, putting("a", 1)) {
					t.Errorf("P17.4: a Do within another one answers true")
				}
				putting("a", 1)(s)
				medium.Fail(3, api.ErrIO)
			}
		}, []int{2}},
		{"it left, then it failed", func(c *Crew) func(*store.Store) {
			return func(*store.Store) { c.Leave(3); medium.Fail(3, api.ErrIO) }
		}, []int{2, 4}},
	} {
		g := newGround(t, 2, 3, 4)
		g.what = x.what
		c := g.formats(2, 3, 4)
		g.p.Arm(4, 0, false)
		if c.Do(3, x.do(c)) {
			t.Errorf("P17.4: %s: Do answers true", g.what)
		}
		g.isMade("P17.4", c, x.left...)
		if want := 3 - len(x.left); c.Changes() != want {
			t.Errorf("P17.1: %s: %d Changes, not %d", g.what, c.Changes(), want)
		}
	}
}

// A do within which others come, and go, and which ends: true.
func TestDoWithin(t *testing.T) {
	g := newGround(t, 2, 3, 4)
	c := g.formats(2, 3)
	g.p.Arm(2, 0, false)
	if !c.Do(3, func(s *store.Store) {
		putting("a", 1)(s)
		if c.Do(2, putting("a", 1)) {
			t.Errorf("P17.4: Do of one that fails")
		}
		if e := c.Add(4); e != api.OK {
			t.Errorf("P17.1: Add within Do: %v", e)
		}
	}) {
		t.Errorf("P17.1: Do of one that doesn't fail")
	}
	g.isMade("P17.1", c, 3, 4)
	g.isCounted(c, 2, 1)
}

// A do within which the crew is stopped, and which fails then: nothing is
// written any more, though the anchor would take it.
func TestDoStops(t *testing.T) {
	for _, fails := range []bool{false, true} {
		g := newGround(t, 2, 3)
		c := g.formats(2, 3)
		was := c.Roster()
		g.p.Arm(anchor, 0, false)
		is := c.Do(3, func(s *store.Store) {
			if e := c.Leave(2); e != api.ErrUnavailable {
				t.Errorf("P17.1: Leave within Do: %v", e)
			}
			if fails {
				medium.Fail(3, api.ErrIO)
			}
		})
		if is == fails {
			t.Errorf("P17.1: Do answers %v, it fails: %v", is, fails)
		}
		g.isStopped("P17.4", c)
		g.isCounted(c, 0, 0)
		if !same(g.saidRoster(), was) || !same(c.Roster(), was) {
			t.Errorf("P17.4: the anchor says %v, the roster is %v", g.saidRoster(), c.Roster())
		}
	}
}

// A panic that isn't a device's goes on; nobody is out by it.
func TestDoPanics(t *testing.T) {
	g := newGround(t, 2)
	c := g.formats(2)
	func() {
		defer func() {
			if x := recover(); x != "something else" {
				t.Errorf("P17.1: %v came up", x)
			}
		}()
		c.Do(2, func(*store.Store) { panic("something else") })
	}()
	g.isMade("P17.1", c, 2)
	g.isCounted(c, 0, 0)
}

// A device that was away, or a crash, ends the session in which it was found.
func TestSessions(t *testing.T) {
	g := newGround(t, 2, 3)
	c := g.formats(2, 3)
	g.puts(c, 3, "a", 1)
	g.p.Detach(3)
	if !c.Do(3, func(*store.Store) {}) {
		t.Errorf("P17.1: nothing was done with it, so it can't have failed")
	}
	g.p.Attach(3)
	if c.Do(3, func(s *store.Store) { s.Read("a") }) {
		t.Errorf("P17.4: Do in an elder session")
	}
	g.isMade("P17.4", c, 2)
	g.p.Crash()
	if c.Do(2, putting("a", 2)) {
		t.Errorf("P17.4: Do behind a crash")
	}
	g.isStopped("P17.4", c)
	g.isMade("P17.4", g.opens(), 2)

	c = g.opens()
	g.p.Detach(anchor)
	if !c.Do(2, putting("a", 3)) {
		t.Errorf("P17.1: Do without the anchor, which isn't asked")
	}
	if e := c.Leave(2); e != api.ErrUnavailable {
		t.Errorf("P17.1: Leave without the anchor: %v", e)
	}
	g.isStopped("P17.4", c)
}

// One by one they are out; the last one, too.
func TestAllOut(t *testing.T) {
	g := newGround(t, 2, 3, 4)
	c := g.formats(2, 3, 4)
	for i, left := range [][]int{{2, 4}, {4}, {}} {
		n := []int{3, 2, 4}[i]
		g.p.Arm(n, 0, true)
		if c.Do(n, putting("a", 1)) {
			t.Errorf("P17.4: Do of %d", n)
		}
		g.isMade("P17.4", c, left...)
		g.isCounted(c, i+1, i+1)
	}
	g.isNext(c, 1)
	g.isMade("P17.4", g.opens())
}

// Versions go on one by one; the Lease that the anchor has is above them.
func TestVersions(t *testing.T) {
	g := newGround(t, 2)
	c := g.formats(2)
	for v := uint64(1); v <= 300; v++ {
		count, epoch := g.p.Count(), c.Roster().Epoch
		g.isNext(c, v)
		extends := v%64 == 0
		if (g.p.Count() > count) != extends || (c.Roster().Epoch > epoch) != extends {
			t.Fatalf("P17.1: version %d: the roster is written: %v", v, g.p.Count() > count)
		}
		if want := (v/64 + 1) * 64; c.Roster().Lease != want {
			t.Fatalf("P17.1: version %d: the Lease is %d, not %d", v, c.Roster().Lease, want)
		}
		if extends {
			g.isMade("P17.3", c, 2)
		}
	}
	g.isCounted(c, 0, 0)
	for i := range uint64(5) {
		c = g.opens()
		if want := 320 + 64*(i+1); c.Roster().Lease != want {
			t.Errorf("P17.1: opened, the Lease is %d, not %d", c.Roster().Lease, want)
		}
		for j := range i {
			g.isNext(c, 320+64*i+j)
		}
	}
	c = g.formats(2)
	g.isNext(c, 640)
	if r := c.Roster(); r.Lease != 704 {
		t.Errorf("P17.1: formatted, the Lease is %d", r.Lease)
	}
}

// The first version is the Lease that was there, at least 1: of whatever Lease.
func TestFirstVersion(t *testing.T) {
	for _, lease := range []uint64{0, 1, 2, 63, 64, 65, 1000, 1 << 32, 1 << 62} {
		first := max(lease, 1)
		for _, format := range []bool{false, true} {
			g := newGround(t, 2)
			g.what = fmt.Sprint("Lease ", lease, ", Format ", format)
			g.says(roster.Roster{Cache: 5, Lease: lease}.Pack())
			var c *Crew
			if format {
				c = g.formats(2)
			} else {
				c = g.opens()
			}
			for v := first; v < lease+130; v++ {
				g.isNext(c, v)
				if r := c.Roster(); r.Lease <= v || (r.Lease-lease)%64 != 0 {
					t.Fatalf("P17.3: %s: of version %d the Lease is %d", g.what, v, r.Lease)
				}
			}
			if r := c.Roster(); r.Lease != lease+192 {
				t.Errorf("P17.1: %s: the Lease is %d", g.what, r.Lease)
			}
		}
	}
}

// A Version at the Lease that is broken off: none is answered ever after; and
// behind a crash, and an Open, it goes on above all that was.
func TestVersionBroken(t *testing.T) {
	for _, stays := range choices {
		stops := 0
		brokenOff(func() *scene {
			g := newGround(t, 2)
			c := g.formats(2)
			for v := range uint64(63) {
				g.isNext(c, v+1)
			}
			return &scene{g, c}
		}, func(s *scene) {
			if v, is := s.c.Version(); is != (v == 64) || is == s.c.Stopped() || !is && v != 0 {
				s.t.Errorf("P17.3: %s: the version is %d, %v", s.what, v, is)
			}
		}, func(s *scene, b breach) {
			if !s.c.Stopped() {
				s.isNext(s.c, 65)
				s.isMade("P17.3", s.c, 2)
				return
			}
			stops++
			s.isStopped("P17.4", s.c)
			if r := s.c.Roster(); r.Lease != 64 {
				s.t.Errorf("P17.1: %s: the Lease is %d", s.what, r.Lease)
			}
			s.p.Crash(stays...)
			c := s.opens()
			if v, is := c.Version(); !is || v < 64 {
				s.t.Errorf("P17.3: %s: behind a crash: the version is %d, %v", s.what, v, is)
			}
		}, anchor)
		if stops < 9 {
			t.Errorf("P17.3: it was stopped %d times", stops)
		}
	}
}

// Any calls, failures, crashes, Opens and Formats: versions rise.
func TestVersionsRise(t *testing.T) {
	r := rand.New(rand.NewSource(17))
	for range 150 {
		g := newGround(t, 2, 3)
		c := g.formats(2, 3)
		last := uint64(0)
		for range 60 {
			if r.Intn(3) == 0 {
				g.strikes(breach{anchor, r.Intn(60), r.Intn(2) == 0, r.Intn(3) == 0})
			}
			for range r.Intn(70) {
				v, is := c.Version()
				if is == c.Stopped() || is && v <= last || !is && v != 0 {
					t.Fatalf("P17.3: behind %d comes %d, %v", last, v, is)
				}
				last = max(v, last)
			}
			if r.Intn(3) > 0 {
				g.p.Crash(r.Intn(2), r.Intn(2), r.Intn(2), r.Intn(2))
			}
			if w, e := anew(r, g); e == api.OK {
				c = w
			}
		}
	}
}

// anew opens, or formats, whether that goes well or not.
func anew(r *rand.Rand, g *ground) (*Crew, api.Errno) {
	switch r.Intn(4) {
	case 0:
		return Format(g.p, config, []int{2 + r.Intn(2)})
	case 1:
		return nil, api.ErrNone
	}
	return Open(g.p, config)
}
