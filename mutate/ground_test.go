package mutate

import (
	"fmt"
	"slices"
	"strings"
	"testing"

	"bandolier/api"
	"bandolier/crew"
	"bandolier/flash"
	"bandolier/medium"
	"bandolier/rank"
	"bandolier/record"
	"bandolier/store"
)

const anchor = 1

// A ground is a crew on a pool with an anchor, and devices of four segments.
type ground struct {
	t    *testing.T
	p    *flash.Pool
	c    *crew.Crew
	what string
}

// newGround answers a crew of the devices from 2 on, so many; as many again are
// there, but no members.
func newGround(t *testing.T, copies, members int) *ground {
	t.Helper()
	return newGroundOf(t, crew.Config{Anchor: anchor, Copies: copies, Per: 8}, 33, members)
}

func newGroundOf(t *testing.T, config crew.Config, sectors, members int) *ground {
	t.Helper()
	g := &ground{t: t, p: flash.New()}
	g.p.Add(anchor, 32)
	for n := 2; n < 2+2*members; n++ {
		g.p.Add(n, sectors)
	}
	c, e := crew.Format(g.p, config, many(2, members))
	if e != api.OK {
		t.Fatalf("Format: %v", e)
	}
	g.c = c
	return g
}

func many(first, n int) []int {
	var l []int
	for i := range n {
		l = append(l, first+i)
	}
	return l
}

func (g *ground) opens() {
	g.t.Helper()
	c, e := crew.Open(g.p, g.c.Config())
	if e != api.OK {
		g.t.Fatalf("%s: Open: %v", g.what, e)
	}
	g.c = c
}

// goes tells if a call of the crew's doesn't go well.
func (g *ground) goes(e api.Errno) {
	g.t.Helper()
	if e != api.OK {
		g.t.Fatalf("%s: %v", g.what, e)
	}
}

// top answers a key's, as the chapter says.
func (g *ground) top(key string) []int {
	return rank.Top(key, g.c.Roster().Active(), g.c.Config().Copies)
}

// keyOf answers a key whose top among those devices is just that, in any order.
func keyOf(t *testing.T, serials []int, top ...int) string {
	t.Helper()
	for i := range 100000 {
		key := fmt.Sprint("k", i)
		l := rank.Top(key, serials, len(top))
		slices.Sort(l)
		if slices.Equal(l, top) {
			return key
		}
	}
	t.Fatalf("no key has the top %v of %v", top, serials)
	return ""
}

// lays lets a member have an entry of a key, whatever the others have.
func (g *ground) lays(serial int, key string, version uint64, kind int) {
	g.t.Helper()
	if !g.c.Do(serial, func(s *store.Store) { s.Put(record.Entry{Key: key, Version: version, Kind: kind}) }) {
		g.t.Fatalf("%s: Do of %d failed", g.what, serial)
	}
}

func (g *ground) puts(key, value string, expiry int, want Outcome) {
	g.t.Helper()
	if o, e := Put(g.c, key, value, expiry); o != want || e != api.OK {
		g.t.Fatalf("P18.1: %s: Put of %q: %d, %v", g.what, key, o, e)
	}
}

func (g *ground) drops(key string) {
	g.t.Helper()
	if e := Drop(g.c, key); e != api.OK {
		g.t.Fatalf("P18.1: %s: Drop of %q: %v", g.what, key, e)
	}
}

// next answers the version that comes.
func (g *ground) next() uint64 {
	g.t.Helper()
	v, is := g.c.Version()
	if !is {
		g.t.Fatalf("%s: there is no version", g.what)
	}
	return v
}

// has answers what a member's slot of a key is: v or t and its version, with h
// behind it if it is hidden; nothing, if there is none.
func (g *ground) has(serial int, key string) string {
	x, is := g.c.Store(serial).Get(key)
	if !is {
		return ""
	}
	s := fmt.Sprint(map[int]string{record.Value: "v", record.Tomb: "t"}[x.Kind], x.Version)
	if x.Hidden {
		s += "h"
	}
	return s
}

// hold: what the members have of a key, by rising serials, in one text.
func (g *ground) hold(why, key, want string) {
	g.t.Helper()
	var l []string
	for _, n := range g.c.Members() {
		l = append(l, fmt.Sprint(n, g.has(n, key)))
	}
	if got := strings.Join(l, " "); got != want {
		g.t.Fatalf("%s: %s: of %q there is %q, not %q", why, g.what, key, got, want)
	}
}

// isSpread: each of the top holds that value, and nobody an elder one.
func (g *ground) isSpread(key string, version uint64, value string, expiry int) {
	g.t.Helper()
	want := record.Entry{Key: key, Version: version, Kind: record.Value, Expiry: expiry, Value: value}
	top := g.top(key)
	for _, n := range g.c.Members() {
		if !slices.Contains(top, n) {
			if held(g.c.Store(n), key) != 0 {
				g.t.Fatalf("P18.1: %s: of %q %d, which isn't of the top, holds %s", g.what, key, n, g.has(n, key))
			}
			continue
		}
		var x record.Entry
		if !g.c.Do(n, func(s *store.Store) { x, _ = s.Read(key) }) || x != want {
			g.t.Fatalf("P18.1: %s: of the top %d has %v, not %v", g.what, n, x, want)
		}
	}
	g.isWhole()
}

// isGone: nobody holds the key.
func (g *ground) isGone(key string) {
	g.t.Helper()
	for _, n := range g.c.Members() {
		if held(g.c.Store(n), key) != 0 {
			g.t.Fatalf("P18.1: %s: %d holds %q: %s", g.what, n, key, g.has(n, key))
		}
	}
	g.isWhole()
}

func (g *ground) isWhole() {
	g.t.Helper()
	if !Whole(g.c) {
		g.t.Fatalf("P18.2: %s: it isn't Whole", g.what)
	}
}

// isStopped: the calls say so, and do nothing.
func (g *ground) isStopped() {
	g.t.Helper()
	if !g.c.Stopped() {
		g.t.Fatalf("P18.2: %s: it isn't stopped", g.what)
	}
	count := g.p.Count()
	if o, e := Put(g.c, "a", "x", 0); o != 0 || e != api.ErrStopped {
		g.t.Errorf("P18.1: %s: it is stopped, but Put answers %d, %v", g.what, o, e)
	}
	if e := Drop(g.c, "a"); e != api.ErrStopped {
		g.t.Errorf("P18.1: %s: it is stopped, but Drop answers %v", g.what, e)
	}
	if g.p.Count() != count {
		g.t.Errorf("P18.1: %s: it is stopped, but something is done", g.what)
	}
}

// sectors answers all that is on the devices.
func (g *ground) sectors() string {
	g.t.Helper()
	var all strings.Builder
	for n := 1; n < 20; n++ {
		if m, e := medium.Of(g.p, n); e == api.OK {
			if b, is := medium.Guard(func() { all.WriteString(m.Read(0, m.Size())) }); is {
				g.t.Fatalf("%s: %v", g.what, b)
			}
		}
	}
	return all.String()
}

// calms: what didn't strike isn't to strike what comes behind.
func (g *ground) calms() {
	g.p.Halt(-1)
	for n := range 20 {
		g.p.Arm(n, 1<<40, false)
	}
}
