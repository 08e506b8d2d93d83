package crew

import (
	"fmt"
	"slices"
	"testing"

	"bandolier/api"
	"bandolier/store"
)

// elder answers a scene with a cache of 2 and 3, each with an entry.
func elder(t *testing.T) *scene {
	t.Helper()
	g := newGround(t, 2, 3, 4)
	c := g.formats(2, 3)
	g.puts(c, 2, "old", 1)
	g.puts(c, 3, "old", 1)
	return &scene{g, c}
}

// holdsAll: each member has just these keys.
func (g *ground) holdsAll(why string, c *Crew, keys ...string) {
	g.t.Helper()
	for _, n := range c.Members() {
		g.holds(why, c, n, keys...)
	}
}

// isOneOf: behind a crash, and an Open, it is the elder cache, of whoever of it
// is there yet, or the new one, of these devices; never the one with the
// other's entries.
func (g *ground) isOneOf(why string, stays []int, serials ...int) {
	g.t.Helper()
	g.p.Crash(stays...)
	c := g.opens()
	g.isMade(why, c, c.Members()...)
	switch c.Roster().Cache {
	case 1:
		g.holdsAll(why, c, "old")
	case 2:
		g.holdsAll(why, c)
		for _, n := range c.Members() {
			if !slices.Contains(serials, n) {
				g.t.Errorf("%s: %s: the members are %v", why, g.what, c.Members())
			}
		}
	default:
		g.t.Errorf("%s: %s: the roster is %v", why, g.what, c.Roster())
	}
	if v, is := c.Version(); !is || v < 64 {
		g.t.Errorf("P17.3: %s: the version is %d, %v", g.what, v, is)
	}
}

// A Format over an elder cache, broken off at any operation: what it answers,
// and what is there behind a crash.
func TestFormatBroken(t *testing.T) {
	for i, stays := range choices {
		told := map[string]int{}
		var c *Crew
		var e api.Errno
		brokenOff(func() *scene { return elder(t) }, func(s *scene) {
			c, e = Format(s.p, config, []int{3, 4})
		}, func(s *scene, b breach) {
			what := fmt.Sprint(b.device, " ", e)
			switch {
			case e != api.OK:
				s.fails("Format", c, e, e)
			case c.Stopped():
				what += " stopped"
				s.isStopped("P17.4", c)
			case c.Outs() > 0:
				what += " out"
				s.isMade("P17.4", c, 7-b.device)
				s.isCounted(c, 1, 1)
				s.holdsAll("P17.2", c)
			default:
				s.isMade("P17.1", c, 3, 4)
				s.isCounted(c, 0, 0)
				s.holdsAll("P17.2", c)
				s.isNext(c, 64)
			}
			told[what]++
			s.isOneOf("P17.2", stays, 3, 4)
			if e == api.OK && s.saidRoster().Cache != 2 {
				s.t.Errorf("P17.2: %s: behind a Format that answered OK the elder cache is there", s.what)
			}
		}, anchor, 3, 4)
		isTold := func(what string, least int) {
			t.Helper()
			if told[what] < least {
				t.Errorf("P17.1: stays %d: %q comes %d times", i, what, told[what])
			}
		}
		io, unavailable := fmt.Sprint(api.ErrIO), fmt.Sprint(api.ErrUnavailable)
		isTold("1 "+io, 2*32)
		isTold("1 "+unavailable, 2*3)
		isTold("3 "+io, 2*2)
		isTold("3 0 out", 2*2)
		isTold("4 "+io, 2*2)
		isTold("4 0 out", 2*2)
		isTold("0 "+io, 32)
		isTold("0 "+unavailable, 3)
		isTold("0 0 stopped", 4)
		for what := range told {
			if !slices.Contains([]string{"1 " + io, "1 " + unavailable, "3 " + io, "3 0 out", "4 " + io, "4 0 out", "0 " + io, "0 " + unavailable, "0 0 stopped", "0 0", "1 0", "3 0", "4 0"}, what) {
				t.Errorf("P17.1: a Format was told as %q", what)
			}
		}
	}
}

// The anchor is read first, all 32 sectors: so it fails by ErrIO there, behind
// that by ErrUnavailable, and then the devices have lost what they had.
func TestFormatNotWritten(t *testing.T) {
	for after := range 60 {
		s := elder(t)
		s.what = fmt.Sprint("the anchor fails behind ", after)
		s.p.Arm(anchor, after, false)
		c, e := Format(s.p, config, []int{3, 4})
		s.calms(anchor)
		switch {
		case after < 32:
			s.fails(s.what, c, e, api.ErrIO)
			s.holdsAll("P17.1", s.opens(), "old")
		case after < 35:
			s.fails(s.what, c, e, api.ErrUnavailable)
			s.p.Crash()
			w := s.opens()
			s.isMade("P17.2", w, 2)
			s.holdsAll("P17.2", w, "old")
		case e != api.OK || c == nil:
			t.Errorf("P17.1: %s: %v", s.what, e)
		}
	}
}

// Nothing is there: a Format that is broken off leaves no cache, or one.
func TestFirstFormatBroken(t *testing.T) {
	for _, stays := range choices {
		var e api.Errno
		brokenOff(func() *scene { return &scene{newGround(t, 2, 3), nil} }, func(s *scene) {
			_, e = Format(s.p, config, []int{2, 3})
		}, func(s *scene, b breach) {
			s.p.Crash(stays...)
			c, is := Open(s.p, config)
			if e == api.OK && is != api.OK || e != api.OK && is != api.OK && is != api.ErrNone {
				s.t.Errorf("P17.1: %s: behind a Format that answered %v: Open: %v", s.what, e, is)
			}
			if is == api.OK {
				s.isMade("P17.2", c, c.Members()...)
				s.holdsAll("P17.2", c)
			}
			s.isMade("P17.1", s.formats(2, 3), 2, 3) // another one goes well
		}, anchor, 2, 3)
	}
}

// entersNot lets a device fail when it enters, and not ahead of that: call is
// made with it, and told by OK, with the device out.
func entersNot(t *testing.T, make func() *scene, call func(s *scene) (*Crew, api.Errno), device int) []int {
	t.Helper()
	var at []int
	for after := range 200 {
		s := make()
		s.p.Arm(device, after, false)
		c, e := call(s)
		if e == api.OK && !slices.Contains(c.Members(), device) {
			at = append(at, after)
		}
	}
	if len(at) == 0 {
		t.Fatalf("P17.4: device %d enters whatever fails", device)
	}
	return at
}

// A device doesn't enter, and the roster without it can't be written, either:
// the crew is there, but stopped. Who could enter has a store.
func TestFormatStopped(t *testing.T) {
	make := func() *scene { return elder(t) }
	call := func(s *scene) (*Crew, api.Errno) { return Format(s.p, config, []int{2, 3, 4}) }
	for _, after := range entersNot(t, make, call, 3) {
		stops := 0
		for write := 35; write < 50; write++ { // of the anchor, behind the first one's end
			s := make()
			s.what = fmt.Sprint("3 fails behind ", after, ", the anchor behind ", write)
			s.p.Arm(3, after, false)
			s.p.Arm(anchor, write, false)
			c, e := call(s)
			s.calms(anchor)
			if e != api.OK {
				t.Fatalf("P17.1: %s: %v", s.what, e)
			}
			if !c.Stopped() {
				s.isMade("P17.4", c, 2, 4)
				s.isCounted(c, 1, 1)
				continue
			}
			stops++
			s.isStopped("P17.4", c)
			s.isCounted(c, 0, 0)
			s.hasStores("P17.1", c, 2, 4)
			if !slices.Equal(c.Roster().All(), []int{2, 3, 4}) || !slices.Equal(c.Members(), []int{2, 4}) {
				t.Errorf("P17.1: %s: the members are %v, of them %v with a store", s.what, c.Roster().All(), c.Members())
			}
		}
		if stops < 2 {
			t.Errorf("P17.4: 3 fails behind %d: it was stopped %d times", after, stops)
		}
	}
}

// Two don't enter, and the anchor fails once, where the first of them is to be
// out: behind that nothing is written any more.
func TestStoppedOnce(t *testing.T) {
	make := func() *scene { return elder(t) }
	call := func(s *scene) (*Crew, api.Errno) { return Format(s.p, config, []int{2, 3, 4}) }
	s := make()
	s.p.Arm(2, entersNot(t, make, call, 2)[0], false)
	s.p.Arm(3, entersNot(t, make, call, 3)[0], false)
	s.p.Arm(anchor, 35, false)
	c, e := call(s)
	if e != api.OK {
		t.Fatalf("P17.1: Format: %v", e)
	}
	s.isStopped("P17.4", c)
	s.isCounted(c, 0, 0)
	s.hasStores("P17.1", c, 4)
	if r := c.Roster(); !slices.Equal(r.All(), []int{2, 3, 4}) || !same(r, s.saidRoster()) {
		t.Errorf("P17.1: the roster is %v, the anchor says %v", r, s.saidRoster())
	}
}

// Who doesn't enter, whyever, is no member any more behind an Open.
func TestOpenRemoves(t *testing.T) {
	for _, x := range []struct {
		what string
		make func(g *ground)
	}{
		{"away", func(g *ground) { g.p.Detach(3) }},
		{"its super fails", func(g *ground) { g.p.Arm(3, 0, false) }},
		{"its store's flush fails", func(g *ground) { g.p.Arm(3, 1, true) }},
		{"its store fails", func(g *ground) { g.p.Arm(3, 3, false) }},
		{"its super is gone", func(g *ground) { m := g.medium(3); g.goesWell(func() { m.Write(0, "x"); m.Flush() }) }},
		{"it is another's", func(g *ground) {
			m := g.medium(3)
			g.goesWell(func() { m.Write(0, g.medium(2).Read(0, 1)); m.Flush() })
		}},
	} {
		g := newGround(t, 2, 3, 4)
		g.what = x.what
		c := g.formats(2, 3, 4)
		g.puts(c, 2, "a", 1)
		g.puts(c, 4, "b", 2)
		was := c.Roster()
		x.make(g)
		c = g.opens()
		g.isMade("P17.1", c, 2, 4)
		g.isCounted(c, 0, 0)
		g.holds("P17.1", c, 2, "a")
		g.holds("P17.1", c, 4, "b")
		want, _ := was.Remove(3)
		if r := c.Roster(); !same(r, want.Extend()) {
			t.Errorf("P17.1: %s: the roster is %v", g.what, r)
		}
		g.p.Attach(3)
		g.p.Crash()
		g.isMade("P17.2", g.opens(), 2, 4)
	}
}

// Nobody is there: the crew has no members.
func TestOpenRemovesAll(t *testing.T) {
	g := newGround(t, 2, 3)
	g.formats(2, 3)
	g.p.Detach(2)
	g.p.Detach(3)
	c := g.opens()
	g.isMade("P17.1", c)
	g.isNext(c, 64)
	g.p.Attach(2)
	g.isMade("P17.2", g.opens())
}

// An Open that is broken off at any operation. Who failed isn't a member any
// more; if it couldn't be written, there is no crew, and one more Open may do.
func TestOpenBroken(t *testing.T) {
	for i, stays := range choices {
		told := map[string]int{}
		var c *Crew
		var e api.Errno
		brokenOff(func() *scene { return elder(t) }, func(s *scene) {
			c, e = Open(s.p, config)
		}, func(s *scene, b breach) {
			told[fmt.Sprint(b.device, " ", e)]++
			switch {
			case e != api.OK:
				s.fails("Open", c, e, e)
				if b.device > anchor {
					s.t.Errorf("P17.1: %s: a member fails, but Open answers %v", s.what, e)
				}
			case len(c.Members()) < 2:
				told[fmt.Sprint(b.device, " less")]++
				s.isMade("P17.4", c, 5-b.device)
			default:
				s.isMade("P17.1", c, 2, 3)
			}
			if e == api.OK {
				s.isCounted(c, 0, 0)
				s.holdsAll("P17.1", c, "old")
				s.isNext(c, 64)
			}
			s.p.Crash(stays...)
			left := []int{2, 3}
			if e == api.OK {
				left = c.Members()
			}
			w := s.opens()
			if !slices.Equal(w.Members(), left) && (e == api.OK || b.device > 0) {
				s.t.Errorf("P17.2: %s: behind an Open the members are %v, not %v", s.what, w.Members(), left)
			}
			s.holdsAll("P17.1", w, "old")
			if v, is := w.Version(); !is || v < 64 || e == api.OK && v < 128 {
				s.t.Errorf("P17.3: %s: the version is %d, %v", s.what, v, is)
			}
		}, anchor, 2, 3)
		if told[fmt.Sprint("1 ", api.ErrIO)] != 64 || told[fmt.Sprint("1 ", api.ErrUnavailable)] < 6 || told["2 less"] < 4 || told["3 less"] < 4 ||
			told[fmt.Sprint("0 ", api.ErrIO)] != 32 || told[fmt.Sprint("0 ", api.ErrUnavailable)] < 4 {
			t.Errorf("P17.1: stays %d: Opens were told so: %v", i, told)
		}
	}
}

// An Add that is broken off at any operation: ErrIO, as long as the device is
// formatted; ErrUnavailable, where the roster can't be written; OK, with the
// device out, where it doesn't enter.
func TestAddBroken(t *testing.T) {
	for i, stays := range choices {
		told := map[string]int{}
		var e api.Errno
		brokenOff(func() *scene { return elder(t) }, func(s *scene) {
			e = s.c.Add(4)
		}, func(s *scene, b breach) {
			what := fmt.Sprint(b.device, " ", e)
			switch {
			case s.c.Stopped():
				what += " stopped"
				s.isStopped("P17.4", s.c)
				if e == api.ErrUnavailable {
					s.isCounted(s.c, 0, 0)
					s.hasStores("P17.1", s.c, 2, 3)
				}
			case e == api.ErrIO && b.halt: // the anchor is down, too, but wasn't asked yet
				s.isCounted(s.c, 0, 0)
				s.hasStores("P17.1", s.c, 2, 3)
			case e == api.ErrIO:
				s.isMade("P17.1", s.c, 2, 3)
				s.isCounted(s.c, 0, 0)
			case e == api.OK && s.c.Outs() > 0:
				what += " out"
				s.isMade("P17.4", s.c, 2, 3)
				s.isCounted(s.c, 2, 1)
			default:
				s.isMade("P17.1", s.c, 2, 3, 4)
				s.isCounted(s.c, 1, 0)
				s.holds("P17.2", s.c, 4)
			}
			told[what]++
			s.p.Crash(stays...)
			c := s.opens()
			s.isMade("P17.2", c, c.Members()...)
			if slices.Contains(c.Members(), 4) {
				s.holds("P17.2", c, 4)
			} else if e := c.Add(4); e != api.OK {
				s.t.Errorf("P17.1: %s: behind an Open: Add: %v", s.what, e)
			}
			s.isMade("P17.2", c, 2, 3, 4)
			s.holds("P17.2", c, 4)
			s.holds("P17.1", c, 2, "old")
		}, anchor, 4)
		for what, least := range map[string]int{
			fmt.Sprint("1 ", api.ErrUnavailable, " stopped"): 6, fmt.Sprint("4 ", api.ErrIO): 4, "4 0 out": 4,
			fmt.Sprint("0 ", api.ErrIO): 2, fmt.Sprint("0 ", api.ErrUnavailable, " stopped"): 3, "0 0 stopped": 2,
		} {
			if told[what] < least {
				t.Errorf("P17.1: stays %d: %q comes %d times: %v", i, what, told[what], told)
			}
		}
	}
}

// A device that is added doesn't enter, and the anchor fails, too.
func TestAddStopped(t *testing.T) {
	make := func() *scene { return elder(t) }
	call := func(s *scene) (*Crew, api.Errno) { return s.c, s.c.Add(4) }
	for _, after := range entersNot(t, make, call, 4) {
		stops := 0
		for write := 3; write < 12; write++ {
			s := make()
			s.what = fmt.Sprint("4 fails behind ", after, ", the anchor behind ", write)
			s.p.Arm(4, after, false)
			s.p.Arm(anchor, write, true)
			e := s.c.Add(4)
			s.calms(anchor)
			switch {
			case e == api.ErrUnavailable:
				s.isStopped("P17.4", s.c)
				s.isCounted(s.c, 0, 0)
			case e != api.OK:
				t.Errorf("P17.1: %s: %v", s.what, e)
			case s.c.Stopped():
				stops++
				s.isStopped("P17.4", s.c)
				s.isCounted(s.c, 1, 0)
				s.hasStores("P17.1", s.c, 2, 3)
				if !slices.Equal(s.c.Roster().All(), []int{2, 3, 4}) {
					t.Errorf("P17.1: %s: the roster is %v", s.what, s.c.Roster())
				}
			default:
				s.isMade("P17.4", s.c, 2, 3)
				s.isCounted(s.c, 2, 1)
			}
		}
		if stops < 2 {
			t.Errorf("P17.4: 4 fails behind %d: it was stopped %d times", after, stops)
		}
	}
}

// Drain and Leave, where the anchor fails at any operation.
func TestChangeBroken(t *testing.T) {
	for _, stays := range choices {
		for i, call := range []func(c *Crew) api.Errno{
			func(c *Crew) api.Errno { return c.Drain(3) },
			func(c *Crew) api.Errno { return c.Leave(3) },
		} {
			stops := 0
			var e api.Errno
			brokenOff(func() *scene {
				s := elder(t)
				s.what = fmt.Sprint("call ", i)
				return s
			}, func(s *scene) {
				e = call(s.c)
			}, func(s *scene, b breach) {
				members := []int{2, 3}
				if e != api.OK {
					stops++
					if e != api.ErrUnavailable || len(s.c.Roster().Active()) != 2 {
						s.t.Errorf("P17.1: %s: %v, the roster is %v", s.what, e, s.c.Roster())
					}
					s.isStopped("P17.4", s.c)
					s.isCounted(s.c, 0, 0)
					s.hasStores("P17.1", s.c, 2, 3)
				} else {
					members = members[:2-i]
					s.isMade("P17.1", s.c, members...)
					s.isCounted(s.c, 1, 0)
				}
				s.p.Crash(stays...)
				c := s.opens()
				if l := c.Members(); e == api.OK && (!slices.Equal(l, members) || len(c.Roster().Active()) != 1) {
					s.t.Errorf("P17.2: %s: behind an Open the roster is %v", s.what, c.Roster())
				}
				s.holdsAll("P17.1", c, "old")
			}, anchor)
			if stops < 6 {
				t.Errorf("P17.1: call %d: it was stopped %d times", i, stops)
			}
		}
	}
}

// Behind a stop another Open makes another crew: the elder one stays as it is.
func TestStoppedForEver(t *testing.T) {
	s := elder(t)
	s.p.Arm(anchor, 0, false)
	if e := s.c.Leave(2); e != api.ErrUnavailable {
		t.Errorf("P17.1: Leave: %v", e)
	}
	s.isStopped("P17.4", s.c)
	c := s.opens()
	s.isMade("P17.1", c, 2, 3)
	s.isNext(c, 64)
	s.isStopped("P17.4", s.c)
	s.p.Crash()
	s.isStopped("P17.4", s.c)
	if s.c.Do(2, func(*store.Store) {}) {
		t.Errorf("P17.4: Do of a crew that is stopped")
	}
}
