package crew

import (
	"fmt"
	"reflect"
	"slices"
	"strings"
	"testing"

	"bandolier/api"
	"bandolier/flash"
	"bandolier/medium"
	"bandolier/record"
	"bandolier/roster"
	"bandolier/slots"
	"bandolier/store"
)

const anchor = 1

var config = Config{Anchor: anchor, Copies: 2, Per: 8}

// A ground is a pool with an anchor, and some devices of four segments each.
type ground struct {
	t    *testing.T
	p    *flash.Pool
	what string
}

func newGround(t *testing.T, serials ...int) *ground {
	t.Helper()
	g := &ground{t: t, p: flash.New()}
	g.adds(anchor, 32)
	for _, n := range serials {
		g.adds(n, 33)
	}
	return g
}

func (g *ground) adds(serial, sectors int) {
	g.t.Helper()
	if e := g.p.Add(serial, sectors); e != api.OK {
		g.t.Fatalf("Add of %d: %v", serial, e)
	}
}

func (g *ground) formats(serials ...int) *Crew {
	g.t.Helper()
	c, e := Format(g.p, config, serials)
	if c == nil || e != api.OK {
		g.t.Fatalf("P17.1: %s: Format of %v: %v", g.what, serials, e)
	}
	return c
}

func (g *ground) opens() *Crew {
	g.t.Helper()
	c, e := Open(g.p, config)
	if c == nil || e != api.OK {
		g.t.Fatalf("P17.1: %s: Open: %v", g.what, e)
	}
	return c
}

func (g *ground) medium(serial int) *medium.Medium {
	g.t.Helper()
	m, e := medium.Of(g.p, serial)
	if e != api.OK {
		g.t.Fatalf("%s: Of %d: %v", g.what, serial, e)
	}
	return m
}

// goesWell does do within a Guard, of which nothing is to come up.
func (g *ground) goesWell(do func()) {
	g.t.Helper()
	if b, is := medium.Guard(do); is {
		g.t.Fatalf("%s: broken off: %v", g.what, b)
	}
}

// said answers the anchor's text.
func (g *ground) said() (string, bool) {
	g.t.Helper()
	var text string
	var is bool
	m := g.medium(anchor)
	g.goesWell(func() { _, text, is = slots.Open(m) })
	return text, is
}

// says lets the anchor have a text.
func (g *ground) says(text string) {
	g.t.Helper()
	m := g.medium(anchor)
	g.goesWell(func() {
		s, _, _ := slots.Open(m)
		s.Write(text)
	})
}

// saidRoster answers the anchor's roster; the zero one: there is none.
func (g *ground) saidRoster() roster.Roster {
	g.t.Helper()
	text, _ := g.said()
	r, _ := roster.Unpack(text)
	return r
}

// sectors answers all that is on those devices that are there.
func (g *ground) sectors() string {
	g.t.Helper()
	var all strings.Builder
	for n := 1; n <= 1000; n++ {
		if g.p.There(n) {
			m := g.medium(n)
			g.goesWell(func() { all.WriteString(m.Read(0, m.Size())) })
		}
	}
	return all.String()
}

// calms: what didn't strike isn't to strike what comes behind.
func (g *ground) calms(serials ...int) {
	g.p.Halt(-1)
	for _, n := range serials {
		g.p.Arm(n, 1<<40, false)
	}
}

func putting(key string, version uint64) func(s *store.Store) {
	return func(s *store.Store) {
		s.Put(record.Entry{Key: key, Version: version, Kind: record.Value, Value: "v" + key})
	}
}

// puts puts a value on a member.
func (g *ground) puts(c *Crew, serial int, key string, version uint64) {
	g.t.Helper()
	if !c.Do(serial, putting(key, version)) {
		g.t.Fatalf("P17.1: %s: Do of %d: it failed", g.what, serial)
	}
}

// isMade: the crew has just these members, whom the anchor names, each with a
// store; it isn't stopped.
func (g *ground) isMade(why string, c *Crew, serials ...int) {
	g.t.Helper()
	if c.Stopped() {
		g.t.Fatalf("%s: %s: it is stopped", why, g.what)
	}
	r := c.Roster()
	if !slices.Equal(r.All(), serials) || !slices.Equal(c.Members(), serials) {
		g.t.Fatalf("%s: %s: the members are %v, of them %v with a store, not %v", why, g.what, r.All(), c.Members(), serials)
	}
	if said := g.saidRoster(); !same(r, said) {
		g.t.Fatalf("%s: %s: the roster is %v, the anchor says %v", why, g.what, r, said)
	}
	if n := g.p.Loose(anchor); n > 0 {
		g.t.Fatalf("%s: %s: %d of the anchor's sectors are loose", why, g.what, n)
	}
	g.hasStores(why, c, serials...)
}

// hasStores: just these have one.
func (g *ground) hasStores(why string, c *Crew, serials ...int) {
	g.t.Helper()
	for n := -1; n <= 1001; n++ {
		if is := c.Store(n) != nil; is != slices.Contains(serials, n) {
			g.t.Fatalf("%s: %s: device %d has a store: %v", why, g.what, n, is)
		}
	}
}

// isCounted: Changes, Outs.
func (g *ground) isCounted(c *Crew, changes, outs int) {
	g.t.Helper()
	if c.Changes() != changes || c.Outs() != outs {
		g.t.Fatalf("P17.1: %s: %d Changes, not %d, and %d Outs, not %d", g.what, c.Changes(), changes, c.Outs(), outs)
	}
}

// isNext: the version is that one.
func (g *ground) isNext(c *Crew, want uint64) {
	g.t.Helper()
	if v, is := c.Version(); v != want || !is {
		g.t.Fatalf("P17.3: %s: the version is %d, %v, not %d", g.what, v, is, want)
	}
}

// holds: a member's store has just these keys.
func (g *ground) holds(why string, c *Crew, serial int, keys ...string) {
	g.t.Helper()
	if s := c.Store(serial); s == nil || !slices.Equal(s.Keys(), keys) {
		g.t.Fatalf("%s: %s: device %d has not just %v", why, g.what, serial, keys)
	}
}

// isStopped: nothing is done any more, for ever; all calls say so.
func (g *ground) isStopped(why string, c *Crew) {
	g.t.Helper()
	if c == nil || !c.Stopped() {
		g.t.Fatalf("%s: %s: it isn't stopped", why, g.what)
	}
	r, members, changes, outs, count := c.Roster(), c.Members(), c.Changes(), c.Outs(), g.p.Count()
	for n := -1; n <= 9; n++ {
		if c.Do(n, func(*store.Store) { g.t.Errorf("%s: %s: it is stopped, but do is called", why, g.what) }) {
			g.t.Errorf("%s: %s: Do of %d: true, but it is stopped", why, g.what, n)
		}
		for i, e := range []api.Errno{c.Add(n), c.Drain(n), c.Leave(n)} {
			if e != api.ErrStopped {
				g.t.Errorf("%s: %s: it is stopped, but call %d of %d answers %v", why, g.what, i, n, e)
			}
		}
	}
	for range 2 {
		if v, is := c.Version(); v != 0 || is {
			g.t.Errorf("%s: %s: it is stopped, but answers the version %d, %v", why, g.what, v, is)
		}
	}
	if !c.Stopped() || !same(r, c.Roster()) || !slices.Equal(members, c.Members()) || c.Changes() != changes || c.Outs() != outs {
		g.t.Errorf("%s: %s: it is stopped, but something has changed", why, g.what)
	}
	if g.p.Count() != count {
		g.t.Errorf("%s: %s: it is stopped, but works on the devices", why, g.what)
	}
}

// fails tells if a crew comes of what is to answer that error.
func (g *ground) fails(what string, c *Crew, e, want api.Errno) {
	g.t.Helper()
	if c != nil || e != want {
		g.t.Errorf("P17.1: %s: %s: %v, a crew: %v, not %v", g.what, what, e, c != nil, want)
	}
}

// same: no members are the same, as a list or as none.
func same(a, b roster.Roster) bool {
	if len(a.Members) == 0 && len(b.Members) == 0 {
		a.Members, b.Members = nil, nil
	}
	return reflect.DeepEqual(a, b)
}

// A breach is how a call is broken off: by a failure of a device's operation
// behind after further ones (done or not), or by a halt there.
type breach struct {
	device, after int
	done, halt    bool
}

func (b breach) String() string {
	if b.halt {
		return fmt.Sprintf("halt(%d)", b.after)
	}
	return fmt.Sprintf("arm(%d, %d, %v)", b.device, b.after, b.done)
}

// strikes lets the pool fail by b.
func (g *ground) strikes(b breach) {
	if b.halt {
		g.p.Halt(b.after)
	} else {
		g.p.Arm(b.device, b.after, b.done)
	}
}

// choices: what stays behind a crash, in some ways.
var choices = [][]int{
	nil,
	{1, 1, 1, 1, 1, 1, 1, 1, 1, 1, 1, 1, 1, 1, 1, 1},
	{1, 0, 1, 0, 1, 0, 1, 0},
	{0, 1, 0, 1, 0, 1, 0, 1},
	{1, 1, 0},
	{0, 0, 1, 1},
}

// A scene is a ground, and a crew on it, made anew for each breach.
type scene struct {
	*ground
	c *Crew
}

// brokenOff lets a call be broken off at each operation, in each way, and hands
// each time on what became of it.
func brokenOff(make func() *scene, call func(s *scene), look func(s *scene, b breach), devices ...int) {
	s := make()
	before := s.p.Count()
	call(s)
	ops := s.p.Count() - before
	for after := range ops + 1 { // the last one strikes nothing
		breaches := []breach{{0, after, false, true}}
		for _, n := range devices {
			breaches = append(breaches, breach{n, after, false, false}, breach{n, after, true, false})
		}
		for _, b := range breaches {
			s := make()
			s.what = fmt.Sprint(s.what, ", ", b)
			s.strikes(b)
			call(s)
			s.calms(devices...)
			look(s, b)
		}
	}
}
