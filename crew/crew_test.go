package crew

import (
	"fmt"
	"math"
	"slices"
	"strings"
	"testing"

	"bandolier/api"
	"bandolier/flash"
	"bandolier/roster"
	"bandolier/store"
)

func TestCheck(t *testing.T) {
	good := [][]int{{1, 2, 999, 1000}, {1, 2, 3, 4}, {8, 9, 63, 64}}
	bad := [][]int{
		{math.MinInt, -1, 0, 1001, 1 << 32, math.MaxInt},
		{math.MinInt, -1, 0, 5, 1<<32 + 1, math.MaxInt},
		{math.MinInt, -8, 0, 1, 7, 65, 128, math.MaxInt},
	}
	for i, a := range append(good[0], bad[0]...) {
		for j, b := range append(good[1], bad[1]...) {
			for k, x := range append(good[2], bad[2]...) {
				want := api.OK
				if i >= 4 || j >= 4 || k >= 4 {
					want = api.ErrConfig
				}
				if e := (Config{a, b, x}).Check(); e != want {
					t.Errorf("P17.1: Check of %d, %d, %d: %v, not %v", a, b, x, e, want)
				}
			}
		}
	}
	if e := (Config{}).Check(); e != api.ErrConfig {
		t.Errorf("P17.1: Check of nothing: %v", e)
	}
}

// The example, and what else a new crew answers.
func TestFormat(t *testing.T) {
	for _, serials := range [][]int{{2, 3}, {3, 2}} {
		g := newGround(t, 2, 3, 4)
		g.what = fmt.Sprint(serials)
		given := slices.Clone(serials)
		c := g.formats(serials...)
		if !slices.Equal(given, serials) {
			t.Errorf("P17.1: the serials that were handed in are %v now", serials)
		}
		want := roster.Roster{Cache: 1, Epoch: 3, Lease: 64, Joins: 2, Members: []roster.Member{
			{Serial: 2, Join: 1, State: roster.Active}, {Serial: 3, Join: 2, State: roster.Active},
		}}
		if r := c.Roster(); !same(r, want) {
			t.Errorf("P17.1: %s: the roster is %v", g.what, r)
		}
		g.isMade("P17.1", c, 2, 3)
		g.isCounted(c, 0, 0)
		g.holds("P17.1", c, 2)
		g.holds("P17.1", c, 3)
		if c.Config() != config {
			t.Errorf("P17.1: Config is %v", c.Config())
		}
		g.isNext(c, 1)
		g.p.Crash()
		if r := g.saidRoster(); !same(r, want) {
			t.Errorf("P17.1: %s: behind a crash the anchor says %v", g.what, r)
		}
		c = g.opens()
		want.Epoch, want.Lease = 4, 128
		if r := c.Roster(); !same(r, want) {
			t.Errorf("P17.1: %s: opened, the roster is %v", g.what, r)
		}
		g.isMade("P17.1", c, 2, 3)
		g.isCounted(c, 0, 0)
	}
}

// As many as may be.
func TestFormatOfSixteen(t *testing.T) {
	g := newGround(t)
	var serials []int
	for i := range 16 {
		serials = append(serials, 1000-i)
		g.adds(1000-i, 17)
	}
	c := g.formats(serials...)
	slices.Sort(serials)
	g.isMade("P17.1", c, serials...)
	for i, x := range c.Roster().Members {
		if x.Join != uint64(i+1) {
			t.Errorf("P17.1: member %d is of the Join %d: they aren't Added by rising serials", x.Serial, x.Join)
		}
	}
	g.isMade("P17.1", g.opens(), serials...)
}

// many answers so many serials, from the first one on.
func many(first, n int) []int {
	var l []int
	for i := range n {
		l = append(l, first+i)
	}
	return l
}

// Each error of Format, and which of several is told. Of the pool's devices 2,
// 3 and 4 have four segments, 5 one, 6 two, and 7 isn't there.
func TestFormatErrors(t *testing.T) {
	badConfig, away, noAnchor, smallAnchor := config, config, config, config
	badConfig.Copies = 5
	away.Anchor = 7
	noAnchor.Anchor = 9
	smallAnchor.Anchor = 8
	for _, x := range []struct {
		what    string
		c       Config
		serials []int
		arm     bool // the anchor
		want    api.Errno
	}{
		{"the config alone", badConfig, []int{2, 3}, false, api.ErrConfig},
		{"the config, and all else", badConfig, append([]int{1, 1, 0, 5, 9}, many(0, 20)...), true, api.ErrConfig},
		{"none", config, []int{}, false, api.ErrArg},
		{"nil", config, nil, true, api.ErrArg},
		{"none, and the anchor isn't there", away, nil, false, api.ErrArg},
		{"twice the same", config, []int{2, 2}, false, api.ErrArg},
		{"twice the same, not side by side", config, []int{2, 3, 2}, true, api.ErrArg},
		{"twice the same, that isn't there", config, []int{7, 7}, false, api.ErrArg},
		{"the anchor", config, []int{1}, false, api.ErrArg},
		{"the anchor among them", config, []int{2, 1, 3}, false, api.ErrArg},
		{"serial 0", config, []int{0, 2}, false, api.ErrArg},
		{"a serial below 0", config, []int{2, -2}, false, api.ErrArg},
		{"the least serial", config, []int{2, math.MinInt}, false, api.ErrArg},
		{"serial 1001", config, []int{2, 1001}, false, api.ErrArg},
		{"the greatest serial", config, []int{math.MaxInt, 2}, false, api.ErrArg},
		{"17, one of them twice", config, append(many(2, 16), 2), false, api.ErrArg},
		{"17, the anchor among them", config, many(1, 17), false, api.ErrArg},
		{"17, one may not be", config, many(985, 17), false, api.ErrArg},
		{"17", config, many(2, 17), false, api.ErrBig},
		{"17 that aren't there", config, many(984, 17), true, api.ErrBig},
		{"17, and the anchor isn't there", noAnchor, many(20, 17), false, api.ErrBig},
		{"999", config, many(2, 999), false, api.ErrBig},
		{"16 that aren't there", config, many(985, 16), false, api.ErrGone},
		{"one that is none", config, []int{2, 10}, false, api.ErrGone},
		{"one that isn't there", config, []int{2, 7}, true, api.ErrGone},
		{"one that isn't there, and one of less than 2 segments", config, []int{5, 7}, false, api.ErrGone},
		{"the anchor is none", noAnchor, []int{2}, false, api.ErrGone},
		{"the anchor isn't there", away, []int{2}, false, api.ErrGone},
		{"the anchor isn't there, and one of less than 2 segments", away, []int{5}, false, api.ErrGone},
		{"the anchor is small, and one isn't there", smallAnchor, []int{7}, false, api.ErrGone},
		{"the anchor is small", smallAnchor, []int{2}, false, api.ErrSize},
		{"less than 2 segments", config, []int{2, 5}, false, api.ErrSize},
		{"less than 2 segments, and the anchor fails", config, []int{5}, true, api.ErrSize},
		{"less than 2 segments of 64", Config{anchor, 1, 64}, []int{2}, false, api.ErrSize},
		{"the anchor fails", config, []int{2, 3}, true, api.ErrIO},
	} {
		g := newGround(t, 2, 3, 4)
		g.what = x.what
		g.adds(5, 16)
		g.adds(6, 17)
		g.adds(7, 33)
		g.adds(8, 31)
		g.p.Detach(7)
		c := g.formats(2, 3)
		g.puts(c, 2, "a", 1)
		before := g.sectors()
		if x.arm {
			g.p.Arm(x.c.Anchor, 31, true) // it fails when all is read but the last sector
		}
		given := slices.Clone(x.serials)
		w, e := Format(g.p, x.c, x.serials)
		g.fails("Format", w, e, x.want)
		if !slices.Equal(given, x.serials) {
			t.Errorf("P17.1: %s: the serials that were handed in are others now", g.what)
		}
		g.calms(anchor)
		if g.sectors() != before || g.p.Loose(anchor) > 0 {
			t.Errorf("P17.1: %s: Format changed something", g.what)
		}
		c = g.opens()
		g.isMade("P17.1", c, 2, 3)
		g.holds("P17.1", c, 2, "a")
	}
}

// A device of just 2 segments, and an anchor of just 32 sectors, are enough.
func TestJustEnough(t *testing.T) {
	for _, per := range []int{8, 9, 64} {
		for less := range 2 {
			for _, size := range []int{31, 32, 33, 4096} {
				p := flash.New()
				p.Add(anchor, size)
				p.Add(2, 1+2*per-less)
				c := Config{anchor, 1, per}
				w, e := Format(p, c, []int{2})
				want := api.OK
				if size < 32 || less > 0 {
					want = api.ErrSize
				}
				if e != want || (w != nil) != (e == api.OK) {
					t.Errorf("P17.1: Format of %d sectors, segments of %d, an anchor of %d: %v", 1+2*per-less, per, size, e)
				}
				want = api.OK
				switch {
				case size < 32:
					want = api.ErrSize
				case less > 0:
					want = api.ErrNone
				}
				if w, e = Open(p, c); e != want || (w != nil) != (e == api.OK) {
					t.Errorf("P17.1: Open, an anchor of %d: %v", size, e)
				}
			}
		}
	}
}

// Each error of Open, and which of several is told.
func TestOpenErrors(t *testing.T) {
	short := newGround(t, 2).formats(2).Roster().Pack()
	for _, x := range []struct {
		what string
		make func(g *ground)
		c    Config
		want api.Errno
	}{
		{"the config", func(g *ground) { g.p.Detach(anchor) }, Config{anchor, 0, 8}, api.ErrConfig},
		{"no anchor", func(*ground) {}, Config{9, 1, 8}, api.ErrGone},
		{"the anchor isn't there", func(g *ground) { g.p.Detach(anchor) }, config, api.ErrGone},
		{"a small anchor isn't there", func(g *ground) { g.p.Detach(5) }, Config{5, 1, 8}, api.ErrGone},
		{"a small anchor", func(*ground) {}, Config{5, 1, 8}, api.ErrSize},
		{"a small anchor that fails", func(g *ground) { g.p.Arm(5, 0, false) }, Config{5, 1, 8}, api.ErrSize},
		{"the anchor fails at once", func(g *ground) { g.p.Arm(anchor, 0, false) }, config, api.ErrIO},
		{"the anchor fails at last", func(g *ground) { g.p.Arm(anchor, 31, true) }, config, api.ErrIO},
		{"the pool is down", func(g *ground) { g.p.Halt(0) }, config, api.ErrIO},
		{"the anchor fails, without a text", func(g *ground) { g.p.Arm(6, 3, false) }, Config{6, 1, 8}, api.ErrIO},
		{"no text", func(*ground) {}, Config{6, 1, 8}, api.ErrNone},
		{"no text: a device's sectors", func(*ground) {}, Config{2, 1, 8}, api.ErrNone},
		{"an empty text", func(g *ground) { g.says("") }, config, api.ErrForm},
		{"some text", func(g *ground) { g.says(strings.Repeat("a", 640)) }, config, api.ErrForm},
		{"a byte too few", func(g *ground) { g.says(short[:len(short)-1]) }, config, api.ErrForm},
		{"a byte more", func(g *ground) { g.says(short + "\x00") }, config, api.ErrForm},
		{"a roster that may not be", func(g *ground) { g.says(roster.Roster{Lease: 64}.Pack()) }, config, api.ErrForm},
		{"no text behind a roster", func(g *ground) { g.says("a"); g.says("") }, config, api.ErrForm},
	} {
		g := newGround(t, 2, 3)
		g.what = x.what
		g.adds(5, 31)
		g.adds(6, 40)
		g.formats(2, 3)
		x.make(g)
		c, e := Open(g.p, x.c)
		g.fails("Open", c, e, x.want)
	}
}

// A whole text is needed, and its roster counts: an elder one, if the later one
// is half.
func TestHalfText(t *testing.T) {
	g := newGround(t, 2, 3, 4)
	c := g.formats(2, 3)
	m := g.medium(anchor)
	var was string
	g.goesWell(func() { was = m.Read(0, 32) })
	if e := c.Add(4); e != api.OK {
		t.Fatalf("P17.1: Add: %v", e)
	}
	g.goesWell(func() { m.Write(17, strings.Repeat("x", 64)) }) // the second Page of three
	g.isMade("P17.1", g.opens(), 2, 3)
	g.goesWell(func() { m.Write(0, was); m.Write(1, strings.Repeat("x", 64)) })
	w, e := Open(g.p, config)
	g.fails("Open of a half text", w, e, api.ErrNone)
}

// What a roster that was there has, is passed on by Format, but for the members.
func TestFormatOverElder(t *testing.T) {
	elder := roster.Roster{Cache: 7, Epoch: 900, Lease: 1000, Joins: 40, Members: []roster.Member{
		{Serial: 3, Join: 11, State: roster.Draining}, {Serial: 500, Join: 40, State: roster.Active},
	}}
	g := newGround(t, 2, 3)
	g.says(elder.Pack())
	c := g.formats(3, 2)
	want := roster.Roster{Cache: 8, Epoch: 904, Lease: 1064, Joins: 42, Members: []roster.Member{
		{Serial: 2, Join: 41, State: roster.Active}, {Serial: 3, Join: 42, State: roster.Active},
	}}
	if r := c.Roster(); !same(r, want) {
		t.Errorf("P17.1: the roster is %v", r)
	}
	g.isMade("P17.1", c, 2, 3)
	g.isCounted(c, 0, 0)
	g.isNext(c, 1000)
}

// Where the anchor's text is no roster, or half, the cache is the first one.
func TestFormatOverNoRoster(t *testing.T) {
	broken := roster.Roster{Cache: 7, Lease: 640, Joins: 4}
	for _, text := range []string{"", "a", strings.Repeat("\xff", 640), roster.Roster{Lease: 640}.Pack(), broken.Pack() + "x", broken.Pack()[1:]} {
		g := newGround(t, 2)
		g.what = fmt.Sprintf("%.9q", text)
		g.says(text)
		c := g.formats(2)
		want := roster.Roster{Cache: 1, Epoch: 2, Lease: 64, Joins: 1, Members: []roster.Member{{Serial: 2, Join: 1, State: roster.Active}}}
		if r := c.Roster(); !same(r, want) {
			t.Errorf("P17.1: %s: the roster is %v", g.what, r)
		}
		g.isNext(c, 1)
	}
}

// A Format over an elder cache: none of its entries is there, nor any member.
func TestFormatAnew(t *testing.T) {
	g := newGround(t, 2, 3, 4)
	c := g.formats(2, 3)
	for v := range 5 {
		g.puts(c, 2, fmt.Sprint("a", v), uint64(v+1))
		g.puts(c, 3, fmt.Sprint("a", v), uint64(v+1))
	}
	if e := c.Drain(3); e != api.OK {
		t.Fatalf("P17.1: Drain: %v", e)
	}
	old := c.Roster()
	c = g.formats(3, 4)
	r := c.Roster()
	if r.Cache != 2 || r.Joins != 4 || r.Epoch != old.Epoch+4 || r.Lease != 128 || len(r.Active()) != 2 {
		t.Errorf("P17.1: the roster is %v", r)
	}
	g.isMade("P17.2", c, 3, 4)
	g.holds("P17.2", c, 3)
	g.holds("P17.2", c, 4)
	g.isNext(c, 64)
	g.p.Crash()
	c = g.opens()
	g.isMade("P17.2", c, 3, 4)
	g.holds("P17.2", c, 3)
	if e := c.Add(2); e != api.OK {
		t.Errorf("P17.1: Add: %v", e)
	}
	g.holds("P17.2", c, 2)
}

// Drain lets a member be one that is to go; behind Leave it is none any more.
func TestDrainAndLeave(t *testing.T) {
	g := newGround(t, 2, 3, 4)
	c := g.formats(2, 3, 4)
	g.puts(c, 3, "a", 1)
	for i, x := range []struct {
		what            string
		call            func(int) api.Errno
		serial          int
		want            api.Errno
		members, active []int
		changes         int
	}{
		{"Drain", c.Drain, 3, api.OK, []int{2, 3, 4}, []int{2, 4}, 1},
		{"Drain", c.Drain, 3, api.ErrThere, []int{2, 3, 4}, []int{2, 4}, 1},
		{"Drain", c.Drain, 5, api.ErrNone, []int{2, 3, 4}, []int{2, 4}, 1},
		{"Drain", c.Drain, anchor, api.ErrNone, []int{2, 3, 4}, []int{2, 4}, 1},
		{"Drain", c.Drain, math.MinInt, api.ErrNone, []int{2, 3, 4}, []int{2, 4}, 1},
		{"Leave", c.Leave, 5, api.ErrNone, []int{2, 3, 4}, []int{2, 4}, 1},
		{"Leave", c.Leave, anchor, api.ErrNone, []int{2, 3, 4}, []int{2, 4}, 1},
		{"Leave", c.Leave, math.MaxInt, api.ErrNone, []int{2, 3, 4}, []int{2, 4}, 1},
		{"Leave", c.Leave, 3, api.OK, []int{2, 4}, []int{2, 4}, 2},
		{"Leave", c.Leave, 3, api.ErrNone, []int{2, 4}, []int{2, 4}, 2},
		{"Drain", c.Drain, 3, api.ErrNone, []int{2, 4}, []int{2, 4}, 2},
		{"Leave", c.Leave, 2, api.OK, []int{4}, []int{4}, 3},
		{"Drain", c.Drain, 4, api.OK, []int{4}, []int{}, 4},
		{"Leave", c.Leave, 4, api.OK, []int{}, []int{}, 5},
		{"Leave", c.Leave, 4, api.ErrNone, []int{}, []int{}, 5},
	} {
		g.what = fmt.Sprint(x.what, " of ", x.serial, ", call ", i)
		epoch := c.Roster().Epoch
		if e := x.call(x.serial); e != x.want {
			t.Errorf("P17.1: %s: %v, not %v", g.what, e, x.want)
		}
		if x.want == api.OK {
			epoch++
		}
		r := c.Roster()
		if r.Epoch != epoch || !slices.Equal(r.Active(), x.active) {
			t.Errorf("P17.1: %s: the roster is %v", g.what, r)
		}
		g.isMade("P17.1", c, x.members...)
		g.isCounted(c, x.changes, 0)
		if slices.Contains(x.members, 3) {
			g.holds("P17.1", c, 3, "a")
		}
		if slices.Contains(x.members, 3) == !c.Do(3, func(*store.Store) {}) {
			t.Errorf("P17.1: %s: Do", g.what)
		}
	}
	c = g.opens() // of nobody
	g.isMade("P17.1", c)
	g.isNext(c, 64)
	if c.Members() != nil {
		t.Errorf("P17.1: no Members: %v", c.Members())
	}
}

// Who is to drain is, behind an Open, still.
func TestDrainStays(t *testing.T) {
	g := newGround(t, 2, 3)
	c := g.formats(2, 3)
	g.puts(c, 3, "a", 1)
	c.Drain(3)
	g.p.Crash()
	c = g.opens()
	g.isMade("P17.1", c, 2, 3)
	g.holds("P17.1", c, 3, "a")
	if x, _ := c.Roster().Find(3); x.State != roster.Draining {
		t.Errorf("P17.1: member 3 is %v", x)
	}
	if e := c.Drain(3); e != api.ErrThere {
		t.Errorf("P17.1: Drain of one that is: %v", e)
	}
}

// Each error of Add, and which of several is told.
func TestAddErrors(t *testing.T) {
	g := newGround(t, many(2, 12)...)
	g.adds(101, 16)
	g.adds(102, 16)
	g.adds(103, 33)
	g.p.Detach(102)
	g.p.Detach(103)
	c := g.formats(many(2, 12)...)
	for _, x := range []struct {
		serial int
		want   api.Errno
	}{
		{math.MinInt, api.ErrArg}, {-1, api.ErrArg}, {0, api.ErrArg}, {anchor, api.ErrArg}, {1001, api.ErrArg}, {math.MaxInt, api.ErrArg},
		{2, api.ErrThere}, {13, api.ErrThere}, {200, api.ErrGone}, {1000, api.ErrGone}, {102, api.ErrGone}, {103, api.ErrGone}, {101, api.ErrSize},
	} {
		g.what = fmt.Sprint("Add of ", x.serial)
		before := g.sectors()
		r := c.Roster()
		if e := c.Add(x.serial); e != x.want {
			t.Errorf("P17.1: %s: %v, not %v", g.what, e, x.want)
		}
		if !same(r, c.Roster()) || g.sectors() != before {
			t.Errorf("P17.1: %s: something has changed", g.what)
		}
		g.isCounted(c, 0, 0)
		g.isMade("P17.1", c, many(2, 12)...)
	}
	g.p.Detach(2) // a member that isn't there is one
	if e := c.Add(2); e != api.ErrThere {
		t.Errorf("P17.1: Add of a member that isn't there: %v", e)
	}
}

// Sixteen are there: so there is no room for one that isn't there, either.
func TestAddFull(t *testing.T) {
	g := newGround(t, many(2, 16)...)
	c := g.formats(many(2, 15)...)
	if e := c.Add(17); e != api.OK {
		t.Fatalf("P17.1: Add of the 16th: %v", e)
	}
	g.isMade("P17.1", c, many(2, 16)...)
	for serial, want := range map[int]api.Errno{18: api.ErrFull, 17: api.ErrThere, anchor: api.ErrArg, 0: api.ErrArg} {
		if e := c.Add(serial); e != want {
			t.Errorf("P17.1: 16 are there: Add of %d: %v, not %v", serial, e, want)
		}
	}
	if e := c.Leave(9); e != api.OK {
		t.Errorf("P17.1: Leave: %v", e)
	}
	if e := c.Add(9); e != api.OK {
		t.Errorf("P17.1: Add of the 16th: %v", e)
	}
	g.isCounted(c, 3, 0)
}

// A device that left, or was out, comes back by Add alone, with nothing.
func TestAddAgain(t *testing.T) {
	g := newGround(t, 2, 3)
	c := g.formats(2, 3)
	for round := range 4 {
		g.what = fmt.Sprint("round ", round)
		for i := range 7 {
			g.puts(c, 3, fmt.Sprint("k", i), uint64(i+1))
		}
		switch round % 2 {
		case 0:
			if e := c.Leave(3); e != api.OK {
				t.Fatalf("P17.1: Leave: %v", e)
			}
		case 1:
			g.p.Detach(3)
			if c.Do(3, func(s *store.Store) { s.Read("k6") }) {
				t.Fatalf("P17.1: Do of a device that isn't there")
			}
			g.p.Attach(3)
		}
		g.isMade("P17.2", c, 2)
		if c.Do(3, func(*store.Store) { t.Errorf("P17.2: do is called") }) {
			t.Errorf("P17.2: Do of no member")
		}
		g.p.Crash()
		c = g.opens()
		g.isMade("P17.2", c, 2)
		joins := c.Roster().Joins
		if e := c.Add(3); e != api.OK {
			t.Fatalf("P17.1: Add: %v", e)
		}
		g.isMade("P17.2", c, 2, 3)
		g.holds("P17.2", c, 3)
		if x, _ := c.Roster().Find(3); x.Join != joins+1 || x.State != roster.Active {
			t.Errorf("P17.2: %s: the member is %v", g.what, x)
		}
		g.isCounted(c, 1, 0)
		c = g.opens()
		g.isMade("P17.2", c, 2, 3)
		g.holds("P17.2", c, 3)
	}
}

// Roster, and Members, answer new memory.
func TestMemory(t *testing.T) {
	g := newGround(t, 2, 3)
	c := g.formats(2, 3)
	r := c.Roster()
	r.Members[0] = roster.Member{Serial: 9, Join: 9, State: 9}
	r.Members = append(r.Members[:1], roster.Member{})
	c.Members()[0] = 9
	g.isMade("P17.1", c, 2, 3)
	spare := make([]int, 2, 9)
	copy(spare, []int{3, 2})
	spare[:9][2] = 77
	if _, e := Format(g.p, config, spare); e != api.OK || !slices.Equal(spare[:9], []int{3, 2, 77, 0, 0, 0, 0, 0, 0}) {
		t.Errorf("P17.1: %v: what was handed in is %v now", e, spare[:9])
	}
}

// An Open by another per: no member's super is of that.
func TestOpenOfAnotherPer(t *testing.T) {
	g := newGround(t, 2, 3)
	g.formats(2, 3)
	c, e := Open(g.p, Config{anchor, 1, 9})
	if e != api.OK {
		t.Fatalf("P17.1: Open: %v", e)
	}
	g.isMade("P17.1", c)
}

// An anchor that is named as a member is none: it has no super.
func TestAnchorAsMember(t *testing.T) {
	g := newGround(t, 2)
	r, _ := g.formats(2).Roster().Add(anchor)
	g.says(r.Pack())
	c := g.opens()
	g.isMade("P17.1", c, 2)
	r = c.Roster()
	if r.Joins != 2 {
		t.Errorf("P17.1: the roster is %v", r)
	}
}
