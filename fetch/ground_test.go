package fetch

import (
	"fmt"
	"slices"
	"strings"
	"testing"

	"bandolier/api"
	"bandolier/crew"
	"bandolier/flash"
	"bandolier/medium"
	"bandolier/rank"
	"bandolier/record"
	"bandolier/store"
)

const anchor = 1

// long: a value whose entry has three sectors.
var long = strings.Repeat("l", 150)

// A ground is a crew on a pool: of the devices from 2 on.
type ground struct {
	t    *testing.T
	p    *flash.Pool
	c    *crew.Crew
	what string
}

func newGround(t *testing.T, members int) *ground {
	t.Helper()
	g := &ground{t: t, p: flash.New()}
	g.p.Add(anchor, 32)
	var l []int
	for n := 2; n < 2+members; n++ {
		g.p.Add(n, 65)
		l = append(l, n)
	}
	c, e := crew.Format(g.p, crew.Config{Anchor: anchor, Copies: 2, Per: 8}, l)
	if e != api.OK {
		t.Fatalf("Format: %v", e)
	}
	g.c = c
	return g
}

// lays lets a member have an entry, whatever the others have.
func (g *ground) lays(serial int, e record.Entry) {
	g.t.Helper()
	if e.Version == 0 {
		e.Version = 1
	}
	if !g.c.Do(serial, func(s *store.Store) { s.Put(e) }) {
		g.t.Fatalf("%s: Do of %d failed", g.what, serial)
	}
}

func value(key, text string, expiry int) record.Entry {
	return record.Entry{Key: key, Kind: record.Value, Expiry: expiry, Value: text}
}

func tomb(key string) record.Entry { return record.Entry{Key: key, Kind: record.Tomb} }

// laysAll lets each of those members have a value of its own: "on", its number,
// and something behind.
func (g *ground) laysAll(key, behind string, serials ...int) {
	g.t.Helper()
	for _, n := range serials {
		g.lays(n, value(key, fmt.Sprint("on", n, behind), 0))
	}
}

// answers: Get's, and with it what Hits answers.
func (g *ground) answers(why, key string, now int, want string, hit bool) {
	g.t.Helper()
	count := g.p.Count()
	if Hits(g.c, key, now) != hit {
		g.t.Fatalf("%s: %s: Hits of %q at %d: %v", why, g.what, key, now, !hit)
	}
	if g.p.Count() != count {
		g.t.Fatalf("P19.1: %s: Hits works on the devices", g.what)
	}
	if v, is, e := Get(g.c, key, now); v != want || is != hit || e != api.OK {
		g.t.Fatalf("%s: %s: Get of %q at %d: %q, %v, %v, not %q, %v", why, g.what, key, now, v, is, e, want, hit)
	}
}

// misses: nobody answers.
func (g *ground) misses(why, key string, now int) {
	g.t.Helper()
	g.answers(why, key, now, "", false)
}

// order answers who is asked, one behind the other, of those.
func order(key string, serials ...int) []int { return rank.Order(key, serials) }

// isStopped: Get says so and does nothing.
func (g *ground) isStopped(keys ...string) {
	g.t.Helper()
	if !g.c.Stopped() {
		g.t.Fatalf("P19.1: %s: it isn't stopped", g.what)
	}
	count := g.p.Count()
	for _, key := range keys {
		if v, is, e := Get(g.c, key, 0); v != "" || is || e != api.ErrStopped {
			g.t.Errorf("P19.1: %s: it is stopped, but Get answers %q, %v, %v", g.what, v, is, e)
		}
	}
	if g.p.Count() != count {
		g.t.Errorf("P19.1: %s: it is stopped, but Get does something", g.what)
	}
}

// said answers the members as the anchor names them.
func (g *ground) said() []int {
	g.t.Helper()
	c, e := crew.Open(g.p, g.c.Config())
	if e != api.OK {
		g.t.Fatalf("%s: Open: %v", g.what, e)
	}
	return c.Roster().All()
}

// A picture is all that a later call could tell: of the crew, of its stores, of
// the devices.
type picture struct {
	roster        string
	members       []int
	changes, outs int
	slots         map[string]store.Slot
	stores        map[int][2]int // Evicted, Moved
	sectors       map[int]string
}

func (g *ground) looks() picture {
	g.t.Helper()
	x := picture{
		fmt.Sprint(g.c.Roster(), g.c.Config(), g.c.Stopped()), g.c.Members(), g.c.Changes(), g.c.Outs(),
		map[string]store.Slot{}, map[int][2]int{}, map[int]string{},
	}
	for _, n := range g.c.Members() {
		s := g.c.Store(n)
		for _, key := range s.Keys() {
			x.slots[fmt.Sprint(n, key)], _ = s.Get(key)
		}
		x.stores[n] = [2]int{s.Evicted(), s.Moved()}
	}
	for n := range 20 {
		if m, e := medium.Of(g.p, n); e == api.OK {
			if b, is := medium.Guard(func() { x.sectors[n] = m.Read(0, m.Size()) }); is {
				g.t.Fatalf("%s: %v", g.what, b)
			}
		}
	}
	return x
}

// keyIn answers a key of which those serials are the Order.
func keyIn(t *testing.T, serials ...int) string {
	t.Helper()
	for i := range 100000 {
		if key := fmt.Sprint("k", i); slices.Equal(order(key, serials...), serials) {
			return key
		}
	}
	t.Fatalf("no key has the Order %v", serials)
	return ""
}

func (g *ground) calms() {
	g.p.Halt(-1)
	for n := range 20 {
		g.p.Arm(n, 1<<40, false)
	}
}
