package store

import (
	"fmt"
	"math/rand"
	"slices"
	"testing"

	"bandolier/api"
	"bandolier/medium"
	"bandolier/record"
)

// A breach is how a call is broken off: by a failure of the operation behind
// after further ones (done or not), or by a halt there, and a crash.
type breach struct {
	after      int
	done, halt bool
}

// breaks does do while the pool fails by b: was it broken off?
func (b breach) breaks(g *ground, do func()) bool {
	g.t.Helper()
	if b.halt {
		g.p.Halt(b.after)
	} else {
		g.p.Arm(device, b.after, b.done)
	}
	told, is := medium.Guard(do)
	if is && (told.Serial != device || told.Err != api.ErrIO && !b.halt || told.Err != api.ErrDown && b.halt) {
		g.t.Errorf("P14.1: %s: broken off by %v", g.what, told)
	}
	if !is { // what didn't strike isn't to strike what comes behind
		g.p.Halt(-1)
		g.p.Arm(device, 1<<40, false)
	}
	return is
}

// ways: each of a call's models on its way, as it is opened anew.
func ways(way []*model) []*model {
	var all []*model
	for _, m := range way {
		all = append(all, m.opened())
	}
	return all
}

// A state is what a store is brought to ahead of the Put that is broken off.
type state struct {
	segs, per int
	brought   func(g *ground, s *Store, m *model)
	put       record.Entry
}

// states: a Put where there is Room; where there is none, but segments are
// free; where the eldest one goes, with what is hot, or without.
func states() []state {
	fills := func(hot ...string) func(g *ground, s *Store, m *model) {
		return func(g *ground, s *Store, m *model) {
			g.fills(s, m, value("a", 1, 1), value("b", 2, 1), value("c", 3, 1))
			g.heats(s, m, hot...)
		}
	}
	return []state{
		{2, 8, func(*ground, *Store, *model) {}, value("a", 9, 1)},
		{3, 8, func(g *ground, s *Store, m *model) { g.puts(s, m, value("a", 1, 1), tomb("b", 2)) }, value("a", 9, 1)},
		{3, 8, func(g *ground, s *Store, m *model) { g.puts(s, m, value("a", 1, 2)) }, tomb("a", 9)},
		{4, 8, func(g *ground, s *Store, m *model) { g.puts(s, m, value("a", 1, 3), value("b", 2, 2)) }, value("a", 9, 3)},
		{2, 8, fills(), value("new", 9, 1)},
		{2, 8, fills("b"), value("new", 9, 3)},
		{2, 8, fills("a", "c"), value("a", 9, 1)},
		{3, 8, fills(), value("b", 9, 1)},
		{3, 8, fills("c"), tomb("c", 9)},
		{3, 16, fills("a", "b", "c"), value("new", 9, 2)},
		{3, 16, fills("a", "b"), value("a", 9, 2)},
		{2, 16, fills("c", "a"), value("fill", 9, 2)},
		{2, 24, fills("c", "a", "b"), value("fill", 9, 1)},
	}
}

// operations: how many a call takes.
func operations(g *ground, do func()) int {
	g.t.Helper()
	count := g.p.Count()
	g.goesWell(do)
	return g.p.Count() - count
}

// A Put is broken off at each of its operations, whatever stays: opened anew,
// the store has the slots that it had, or those on the way.
func TestBrokenOnce(t *testing.T) {
	for i, x := range states() {
		g, s, _ := x.bring(t)
		n := operations(g, func() { s.Put(x.put) })
		for after := range n + 1 {
			for _, b := range []breach{{after, false, false}, {after, true, false}, {after, false, true}} {
				for stays := range 8 {
					brokenOnce(t, fmt.Sprint("state ", i), x, b, stays, n)
				}
			}
		}
	}
}

func (x state) bring(t *testing.T) (*ground, *Store, *model) {
	t.Helper()
	g := newGround(t, x.segs, x.per)
	s, m := g.open(), newModel(x.segs, x.per)
	x.brought(g, s, m)
	return g, s, m
}

func brokenOnce(t *testing.T, what string, x state, b breach, stays, n int) {
	t.Helper()
	g, s, m := x.bring(t)
	g.what = fmt.Sprint(what, ", broken off ", b, ", stays ", stays)
	way := m.put(x.put)
	is := b.breaks(g, func() { s.Put(x.put) })
	if is != (b.after < n) {
		t.Fatalf("P14.1: %s: broken off: %v", g.what, is)
	}
	models := ways(way)
	if !is {
		g.is(s, m)
		models = models[len(models)-1:]
	}
	if b.halt || stays > 0 { // else it goes on without a crash
		g.p.Crash(stays&1, stays>>1&1, stays>>2&1)
	}
	found := models[g.opensAs("P14.2", models...)]
	g.p.Crash() // what was found once stays
	g.opensAs("P14.2", found)
	g.goesOn(found)
}

// goesOn: behind whatever was broken off, what is found is a store.
func (g *ground) goesOn(m *model) {
	g.t.Helper()
	s, m := g.open(), m.clone(true)
	if g.log().Free() == 0 {
		g.t.Errorf("P14.1: %s: opened, but no segment is free", g.what)
	}
	for i := range 5 {
		g.puts(s, m, value(fmt.Sprint("on", i%3), uint64(90+i), 1+i%3))
	}
	g.p.Crash()
	g.opensAs("P14.2", m.opened())
}

// A breach at each operation of a Put, then one at each of what follows: of
// the Open, or of the Put that is tried again; then an Open.
func TestBrokenTwice(t *testing.T) {
	for i, x := range states() {
		g, s, _ := x.bring(t)
		n := operations(g, func() { s.Put(x.put) })
		for first := range n {
			for second := range n {
				for kind := range 8 {
					b := breach{first, kind&1 == 1, kind&2 == 2}
					c := breach{second, kind&1 == 0, kind&4 == 4}
					brokenTwice(t, fmt.Sprint("state ", i), x, b, c)
				}
			}
		}
	}
}

func brokenTwice(t *testing.T, what string, x state, b, c breach) {
	t.Helper()
	g, s, m := x.bring(t)
	g.what = fmt.Sprint(what, ", broken off ", b, c)
	way := m.put(x.put)
	b.breaks(g, func() { s.Put(x.put) })
	g.crashes(b)
	models := ways(way)
	if c.breaks(g, func() { Open(g.medium(), cache, join, g.segs, g.per) }) {
		g.crashes(c)
	}
	m = models[g.opensAs("P14.2", models...)]
	s = g.open()
	models = ways(m.put(x.put))
	if c.breaks(g, func() { s.Put(x.put) }) {
		g.crashes(c)
	} else {
		models = models[len(models)-1:]
	}
	found := models[g.opensAs("P14.2", models...)]
	g.p.Crash()
	g.opensAs("P14.2", found)
}

// crashes: behind a halt there is a crash; some of what is loose stays.
func (g *ground) crashes(b breach) {
	if b.halt {
		g.p.Crash(b.after&1, b.after>>1&1)
	}
}

// An Open that is broken off, where it reclaims, and where it doesn't.
func TestOpenBroken(t *testing.T) {
	for i, x := range states() {
		for _, full := range []bool{false, true} {
			for after := 0; ; after++ {
				g, _, m := x.bring(t)
				g.what = fmt.Sprint("state ", i, ", full ", full, ", Open broken off at ", after)
				if full {
					for len(m.live) < m.segs {
						g.lays([]string{value("z", 50, 1).Pack()})
						m.start()
						m.append(piece{n: 1, e: value("z", 50, 1)})
					}
				}
				if !(breach{after, after%2 == 0, after%3 == 0}).breaks(g, func() { Open(g.medium(), cache, join, g.segs, g.per) }) {
					break
				}
				if after%3 == 0 {
					g.p.Crash(after & 2)
				}
				g.opensAs("P14.2", m.opened())
				g.goesOn(m.opened())
			}
		}
	}
}

// Get, Hide, Keys, Len, Evicted, Moved work on no device; a Read that is broken
// off leaves what is there.
func TestReadBroken(t *testing.T) {
	g := newGround(t, 3, 16)
	g.what = "Read broken off"
	s, m := g.open(), newModel(3, 16)
	g.puts(s, m, value("a", 1, 3))
	for after := range 3 {
		if !(breach{after, true, false}).breaks(g, func() { s.Read("a") }) {
			t.Errorf("P14.1: Read of three sectors has %d operations", after)
		}
		g.opensAs("P14.2", m.opened())
		s = g.open()
	}
	g.p.Detach(device)
	s.Hide("a")
	m.hide("a")
	g.is(s, m)
	if _, is := medium.Guard(func() { s.Read("a") }); !is {
		t.Errorf("P14.1: Read doesn't read from the device")
	}
	if _, is := medium.Guard(func() { s.Read("none") }); is {
		t.Errorf("P14.1: Read of a key that has no slot works on the device")
	}
}

// What a failed call left loose is found by Open, and stays, though a crash
// comes behind.
func TestFoundStays(t *testing.T) {
	for after := range 14 {
		for _, done := range []bool{false, true} {
			g := newGround(t, 2, 16)
			g.what = fmt.Sprint("found stays, ", after, done)
			s, m := g.open(), newModel(2, 16)
			g.fills(s, m, value("a", 1, 1), value("b", 2, 1))
			g.heats(s, m, "a", "b")
			models := ways(m.put(value("new", 9, 1)))
			if !(breach{after, done, false}).breaks(g, func() { s.Put(value("new", 9, 1)) }) {
				continue
			}
			s = g.open()
			if g.p.Loose(device) != 0 {
				t.Errorf("P14.2: %s: Open leaves %d loose", g.what, g.p.Loose(device))
			}
			i := slices.IndexFunc(models, func(m *model) bool { return differs(s, m) == "" })
			if i < 0 {
				t.Fatalf("P14.2: %s: %q", g.what, s.Keys())
			}
			g.p.Crash()
			g.opensAs("P14.2", models[i])
		}
	}
}

// Random courses: Puts that are broken off, one behind the other, each by a
// failure or a crash; each time the store has what is on the way of the Put.
func TestRandomCourses(t *testing.T) {
	r := rand.New(rand.NewSource(15))
	for range 400 {
		segs, per := 2+r.Intn(3), 8+r.Intn(10)
		g := newGround(t, segs, per)
		s, m := g.open(), newModel(segs, per)
		for step := range 40 {
			g.what = fmt.Sprint(segs, " segments of ", per, ", step ", step)
			if keys := m.keys(); len(keys) > 0 && r.Intn(2) == 0 {
				g.heats(s, m, keys[r.Intn(len(keys))])
			}
			e := randomEntry(r, per, step, string(rune('a'+r.Intn(7))))
			models := ways(m.put(e))
			b := breach{r.Intn(30), r.Intn(2) == 0, r.Intn(2) == 0}
			if !b.breaks(g, func() { s.Put(e) }) {
				g.is(s, m)
				continue
			}
			if b.halt || r.Intn(3) == 0 {
				g.p.Crash(r.Intn(2), r.Intn(2), r.Intn(2), r.Intn(2), r.Intn(2))
			}
			if r.Intn(2) == 0 {
				if c := (breach{r.Intn(40), r.Intn(2) == 0, r.Intn(2) == 0}); c.breaks(g, func() { Open(g.medium(), cache, join, segs, per) }) {
					g.crashes(c)
				}
			}
			m = models[g.opensAs("P14.2", models...)]
			s = g.open()
		}
	}
}

// By versions alone: nothing that was put over, or dropped, comes back.
func TestNeverBack(t *testing.T) {
	r := rand.New(rand.NewSource(16))
	for range 400 {
		segs, per := 2+r.Intn(3), 8+r.Intn(10)
		g := newGround(t, segs, per)
		s := g.open()
		least := map[string]uint64{} // what is elder was put over, or dropped
		for step := range 60 {
			g.what = fmt.Sprint(segs, " segments of ", per, ", step ", step)
			e := randomEntry(r, per, step, string(rune('a'+r.Intn(6))))
			b := breach{r.Intn(25), r.Intn(2) == 0, r.Intn(2) == 0}
			if r.Intn(2) == 0 {
				b.after = 1000
			}
			if b.breaks(g, func() { s.Put(e); s.Read(e.Key) }) {
				g.crashes(b)
				s = g.open()
			} else if x, is := s.Get(e.Key); !is || x.Version != e.Version {
				t.Fatalf("P14.2: %s: what was put isn't there: %v, %v", g.what, x, is)
			}
			for i := range 6 {
				key := string(rune('a' + i))
				x, is := s.Get(key)
				if is && x.Version < least[key] {
					t.Fatalf("P14.2: %s: %q of version %d is back, behind %d", g.what, key, x.Version, least[key])
				}
				least[key] = max(least[key], x.Version)
				if !is {
					least[key] = uint64(step + 2) // it is gone, till it is put anew
				}
			}
		}
	}
}
