package gate

import (
	"fmt"
	"maps"
	"math/rand"
	"testing"

	"bandolier/roster"
	"bandolier/seglog"
	"bandolier/store"
)

// A device that leaves, and comes back: ahead of its being let in again, behind
// that, and behind a Format.
func TestComesBack(t *testing.T) {
	g := newGround(t, 33)
	has := map[string]string{}
	r, _ := roster.Roster{Cache: cache}.Add(4)
	r, _ = r.Add(device)
	for round := range 4 {
		g.what = fmt.Sprint("round ", round)
		x, _ := r.Find(device)
		g.entersNot("P16.2", r, 8, Stale)
		g.formats(cache, x, 8)
		has = map[string]string{}
		g.holds("P16.3", r, 8, has)
		g.puts(g.enters(r, 8), has, "a", "b", "c", "d")
		g.holds("P16.1", r, 8, has)

		member := r
		r, _ = r.Remove(device)
		g.entersNot("P16.2", r, 8, Foreign)
		g.p.Detach(device)
		g.entersNot("P16.2", r, 8, Away)
		g.p.Attach(device)
		g.entersNot("P16.2", r, 8, Foreign)
		g.isJudged("P16.2", member, 8, Member)
		r, _ = r.Add(device)
		g.entersNot("P16.2", r, 8, Stale)
		g.p.Crash()
		g.entersNot("P16.2", r, 8, Stale)
		if round == 2 { // of another cache it is none of this one's, either
			r = r.Fresh()
			g.entersNot("P16.2", r, 8, Foreign)
			r, _ = r.Add(device)
			g.entersNot("P16.2", r, 8, Stale)
		}
		if round%2 == 0 { // it goes once more ahead of a Format
			r, _ = r.Remove(device)
			g.entersNot("P16.2", r, 8, Foreign)
			r, _ = r.Add(device)
		}
		r.Cache = cache
	}
}

// A cache that is formatted anew has none of the elder one's devices.
func TestAnotherCache(t *testing.T) {
	g := newGround(t, 33)
	g.what = "another cache"
	r, has := of(cache, 1), map[string]string{}
	g.formats(cache, member(1), 8)
	g.puts(g.enters(r, 8), has, "a", "b")
	n, _ := r.Fresh().Add(device)
	g.entersNot("P16.2", n, 8, Stale)
	x, _ := n.Find(device)
	g.formats(n.Cache, x, 8)
	g.holds("P16.3", n, 8, nil)
	g.entersNot("P16.2", r, 8, Stale)
}

// A device with entries that is formatted anew: under another Join, another
// cache, another per, and under the same ones.
func TestFormattedAnew(t *testing.T) {
	type under struct {
		cache, join uint64
		per         int
	}
	for _, keys := range []int{1, 3, 4, 9, 20} {
		for _, x := range []under{{cache, 2, 8}, {cache, 1, 8}, {cache + 1, 1, 8}, {cache, 1, 16}, {cache, 1, 9}, {cache, 2, 16}} {
			g := newGround(t, 33)
			g.what = fmt.Sprint(keys, " keys, ", x)
			has := map[string]string{}
			g.formats(cache, member(1), 8)
			s := g.enters(of(cache, 1), 8)
			for i := range keys {
				g.puts(s, has, fmt.Sprint("elder", i))
			}
			g.formats(x.cache, member(x.join), x.per)
			r := of(x.cache, x.join)
			g.isJudged("P16.1", r, x.per, Member)
			has = map[string]string{}
			g.holds("P16.3", r, x.per, has)
			g.p.Crash(1, 1, 1, 1)
			g.holds("P16.3", r, x.per, has)
			for i := range 3 { // nor does it come back by what is put behind it
				s := g.enters(r, x.per)
				g.puts(s, has, fmt.Sprint("new", i))
				if slot, _ := s.Get("new0"); slot.At != (seglog.Loc{Seg: 0, At: 1, N: 1}) {
					t.Errorf("P16.3: %s: the first entry is at %v, as if others were ahead of it", g.what, slot.At)
				}
				g.holds("P16.3", r, x.per, has)
			}
			g.formats(cache, member(1), 8) // and back again
			g.holds("P16.3", of(cache, 1), 8, nil)
		}
	}
}

// An elder group behind a shorter one, in a segment whose Number comes again:
// all Heads of the elder Join are others' by then, but some Commits aren't.
func TestNumbersComeAgain(t *testing.T) {
	g := newGround(t, 33)
	g.what = "Numbers come again"
	has := map[string]string{}
	g.formats(cache, member(1), 8)
	g.puts(g.enters(of(cache, 1), 8), has, "a", "b", "c", "d", "e", "f") // three to a segment
	g.formats(cache, member(2), 8)
	has = map[string]string{}
	g.puts(g.enters(of(cache, 2), 8), has, "g", "h", "i", "j")
	g.holds("P16.3", of(cache, 2), 8, has)
	g.formats(cache, member(1), 8)
	has = map[string]string{}
	for _, key := range []string{"k", "l", "m", "n"} {
		g.puts(g.enters(of(cache, 1), 8), has, key)
		g.holds("P16.3", of(cache, 1), 8, has)
	}
}

// brought: a device that was formatted under Join 1, with some entries; and
// those.
func brought(t *testing.T, what string) (*ground, map[string]string) {
	t.Helper()
	g := newGround(t, 33)
	has := map[string]string{}
	g.what = "elder"
	g.formats(cache, member(1), 8)
	s := g.enters(of(cache, 1), 8)
	g.puts(s, has, "a", "b", "c", "d")
	g.what = "put anew"
	g.puts(s, has, "a", "e")
	g.what = what
	return g, has
}

// A Format that is broken off at each of its operations, whatever stays: the
// device is what it was, or nobody's, or formatted.
func TestFormatBroken(t *testing.T) {
	for _, join := range []uint64{1, 2} {
		operations := 0
		for after := 0; after <= operations; after++ {
			for _, b := range breaches(after) {
				for stays := range 8 {
					g, has := brought(t, fmt.Sprint("Join ", join, ", Format broken off ", b, ", stays ", stays))
					m := g.medium()
					if g.breaks(b, func() { Format(m, cache, member(join), 8) }) {
						operations = after + 1
					} else {
						g.holds("P16.3", of(cache, join), 8, nil)
					}
					if b.halt || stays > 0 { // else it goes on without a crash
						g.p.Crash(stays&1, stays>>1&1, stays>>2&1)
					}
					g.isWhole(join, has)
					g.p.Crash()
					g.isWhole(join, has)
					g.formats(cache, member(join), 8)
					g.goesOn(of(cache, join), 8)
				}
			}
		}
		if operations < 3 {
			t.Errorf("P16.1: Format was broken off at %d operations", operations)
		}
	}
}

// isWhole: what was there ahead of a Format is whole, or nothing of it is.
func (g *ground) isWhole(join uint64, has map[string]string) {
	g.t.Helper()
	if s, is := Enter(g.p, of(cache, 1), device, 8); is == Member {
		got := g.held(s)
		if !maps.Equal(got, has) && (join != 1 || len(got) > 0) {
			g.t.Fatalf("P16.3: %s: the store has %v, of %v", g.what, got, has)
		}
	}
	if join == 1 {
		return
	}
	if s, is := Enter(g.p, of(cache, join), device, 8); is == Member && s.Len() > 0 {
		g.t.Fatalf("P16.2: %s: the store has %v", g.what, s.Keys())
	}
}

// goesOn: behind a Format there is what is put then, and nothing else.
func (g *ground) goesOn(r roster.Roster, per int) {
	g.t.Helper()
	has := map[string]string{}
	g.holds("P16.3", r, per, has)
	for i := range 4 {
		g.puts(g.enters(r, per), has, fmt.Sprint("on", i))
		g.p.Crash()
		g.holds("P16.3", r, per, has)
	}
}

// A Format that is broken off, tried again and broken off again, and a crash:
// it is formatted, or not, but none of the elder groups is there if it is.
func TestFormatBrokenTwice(t *testing.T) {
	for first := range 50 {
		for second := range 50 {
			for _, done := range []bool{false, true} {
				g, has := brought(t, fmt.Sprint("Format broken off at ", first, ", then at ", second, ", done ", done))
				g.formats(cache, member(2), 8) // so what is of Join 1 is nobody's
				m := g.medium()
				g.breaks(breach{first, done, false}, func() { Format(m, cache, member(1), 8) })
				g.breaks(breach{second, !done, second%2 == 0}, func() { Format(m, cache, member(1), 8) })
				g.p.Crash(1, second&1, 0, first&1)
				if s, is := Enter(g.p, of(cache, 1), device, 8); is == Member && s.Len() > 0 {
					t.Fatalf("P16.2: %s: the store has %v, of %v", g.what, s.Keys(), has)
				}
			}
		}
	}
}

// Random courses: Formats under some Joins, caches and pers, Puts between them,
// failures and crashes: what is there was put since the last Format.
func TestRandomCourses(t *testing.T) {
	r := rand.New(rand.NewSource(16))
	for course := range 300 {
		g := newGround(t, 33+r.Intn(40))
		var now roster.Roster // of nobody, till the device is formatted
		per, has := 8, map[string]string{}
		for step := range 40 {
			g.what = fmt.Sprint("course ", course, ", step ", step)
			if r.Intn(4) > 0 {
				if len(now.Members) > 0 {
					g.putsSome(now, per, has, fmt.Sprint("k", r.Intn(9)))
				}
				continue
			}
			to, as := of(cache+uint64(r.Intn(2)), 1+uint64(r.Intn(2))), []int{8, 8, 16, 11}[r.Intn(4)]
			m := g.medium()
			b := breach{r.Intn(120), r.Intn(2) == 0, r.Intn(2) == 0}
			if !g.breaks(b, func() { Format(m, to.Cache, to.Members[0], as) }) {
				now, per, has = to, as, map[string]string{}
				g.holds("P16.3", now, per, has)
				continue
			}
			g.p.Crash(r.Intn(2), r.Intn(2), r.Intn(2), r.Intn(2))
			if s, is := Enter(g.p, to, device, as); is == Member && s.Len() > 0 {
				g.isOf(s, has)
			}
			now = roster.Roster{} // it may be a member, or not
		}
	}
}

// putsSome puts a value, for which others may go, and opens the store anew.
func (g *ground) putsSome(r roster.Roster, per int, has map[string]string, key string) {
	g.t.Helper()
	g.isOf(g.enters(r, per), has)
	g.puts(g.enters(r, per), has, key)
	s := g.enters(r, per)
	g.isOf(s, has)
	if _, is := s.Get(key); !is {
		g.t.Fatalf("P16.1: %s: what was put isn't there", g.what)
	}
}

// isOf: all that a store has is of that.
func (g *ground) isOf(s *store.Store, has map[string]string) {
	g.t.Helper()
	for key, value := range g.held(s) {
		if has[key] != value {
			g.t.Fatalf("P16.3: %s: the store has %q of %s, not %q", g.what, value, key, has[key])
		}
	}
}
