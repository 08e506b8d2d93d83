package moves

import (
	"fmt"
	"maps"
	"slices"
	"strings"
	"testing"

	"bandolier/api"
	"bandolier/crew"
	"bandolier/fetch"
	"bandolier/flash"
	"bandolier/medium"
	"bandolier/mutate"
	"bandolier/rank"
	"bandolier/record"
	"bandolier/roster"
	"bandolier/store"
)

const (
	anchor = 1
	last   = 9 // device
	over   = 5 // an expiry
)

// A ground is a crew, and a Mover of it, on a pool with an anchor, and devices
// from 2 on.
type ground struct {
	t    *testing.T
	p    *flash.Pool
	c    *crew.Crew
	m    *Mover
	what string
}

// newGround: the first devices are members, the others could be.
func newGround(t *testing.T, copies, members int) *ground {
	t.Helper()
	return newGroundOf(t, copies, members, 129, 32)
}

func newGroundOf(t *testing.T, copies, members, sectors, per int) *ground {
	t.Helper()
	g := &ground{t: t, p: flash.New()}
	g.p.Add(anchor, 32)
	for n := 2; n <= last; n++ {
		g.p.Add(n, sectors)
	}
	c, e := crew.Format(g.p, crew.Config{Anchor: anchor, Copies: copies, Per: per}, serials(2, 1+members))
	if e != api.OK {
		t.Fatalf("Format: %v", e)
	}
	g.c, g.m = c, New(c)
	return g
}

func serials(from, to int) []int {
	var l []int
	for n := from; n <= to; n++ {
		l = append(l, n)
	}
	return l
}

// laysEntry lets a member have an entry, whatever the others have.
func (g *ground) laysEntry(serial int, e record.Entry) {
	g.t.Helper()
	if !g.c.Do(serial, func(s *store.Store) { s.Put(e) }) {
		g.t.Fatalf("%s: Do of %d failed", g.what, serial)
	}
}

// textOf: of each key each version has a value of its own, of some sectors.
func textOf(key string, version uint64) string {
	return fmt.Sprint(key, " of ", version, strings.Repeat(".", int(version%3)*50))
}

// lays lets members have what a text says, word by word: its serial, ":", v or t,
// its version, with "o" behind it if it expires, with "h" if it is hidden.
func (g *ground) lays(key, text string) {
	g.t.Helper()
	for _, word := range strings.Fields(text) {
		var serial int
		var kind rune
		e := record.Entry{Key: key, Kind: record.Tomb}
		fmt.Sscanf(word, "%d:%c%d", &serial, &kind, &e.Version)
		if kind == 'v' {
			e.Kind, e.Value = record.Value, textOf(key, e.Version)
		}
		if strings.Contains(word, "o") {
			e.Expiry = over
		}
		g.laysEntry(serial, e)
		if strings.HasSuffix(word, "h") {
			g.c.Store(serial).Hide(key)
		}
	}
}

// slotText answers what a slot is, in those words' way.
func slotText(x store.Slot) string {
	text := fmt.Sprint(map[int]string{record.Value: "v", record.Tomb: "t"}[x.Kind], x.Version)
	if x.Expiry == over {
		text += "o"
	}
	if x.Hidden {
		text += "h"
	}
	return text
}

// all answers what all members have of a key, in those words.
func (g *ground) all(key string) string {
	var l []string
	for _, n := range g.c.Members() {
		if x, is := g.c.Store(n).Get(key); is {
			l = append(l, fmt.Sprint(n, ":", slotText(x)))
		}
	}
	return strings.Join(l, " ")
}

func (g *ground) hold(why, key, want string) {
	g.t.Helper()
	if got := g.all(key); got != want {
		g.t.Fatalf("%s: %s: of %q there is %q, not %q", why, g.what, key, got, want)
	}
}

func (g *ground) members(why string, want ...int) {
	g.t.Helper()
	if l := g.c.Members(); !slices.Equal(l, want) || !slices.Equal(g.c.Roster().All(), want) {
		g.t.Fatalf("%s: %s: the members are %v, not %v", why, g.what, l, want)
	}
}

// topOf answers a key's top, the greatest weight first.
func (g *ground) topOf(key string) []int {
	return rank.Top(key, g.c.Roster().Active(), g.c.Config().Copies)
}

// holds: has the member a value of the key, which isn't hidden?
func (g *ground) holds(serial int, key string) bool {
	x, is := g.c.Store(serial).Get(key)
	return is && x.Kind == record.Value && !x.Hidden
}

// ticks: those at which it is asked what hits.
var ticks = []int{0, over - 1, over, 1000}

// hits answers what hits at a tick, with its version. (Nothing is read.)
func (g *ground) hits(now int) map[string]uint64 {
	m := map[string]uint64{}
	for _, key := range fetch.Keys(g.c) {
		for _, n := range rank.Order(key, g.c.Members()) {
			x, _ := g.c.Store(n).Get(key)
			if g.holds(n, key) && (x.Expiry == 0 || x.Expiry > now) {
				m[key] = x.Version
				break
			}
		}
	}
	return m
}

func (g *ground) hitsAtAll() []map[string]uint64 {
	var l []map[string]uint64
	for _, now := range ticks {
		l = append(l, g.hits(now))
	}
	return l
}

// state answers all that a call could tell, but what was tried.
func (g *ground) state() string {
	g.t.Helper()
	r := g.c.Roster()
	l := []string{fmt.Sprint(r, g.c.Members(), g.c.Stopped(), g.c.Changes(), g.c.Outs(), " at ", g.p.Count())}
	for _, n := range g.c.Members() {
		s := g.c.Store(n)
		l = append(l, fmt.Sprint("store ", n, ": ", s.Evicted(), " evicted, ", s.Moved(), " moved"))
		for _, key := range s.Keys() {
			x, _ := s.Get(key)
			l = append(l, fmt.Sprint(key, ": ", x))
		}
	}
	return strings.Join(l, "\n")
}

// sectors answers all that is on the devices.
func (g *ground) sectors() string {
	g.t.Helper()
	var all strings.Builder
	for n := 1; n <= last; n++ {
		if m, e := medium.Of(g.p, n); e == api.OK {
			if b, is := medium.Guard(func() { all.WriteString(m.Read(0, m.Size())) }); is {
				g.t.Fatalf("%s: %v", g.what, b)
			}
		}
	}
	return all.String()
}

// steps: a Step does something, as Done says.
func (g *ground) steps() {
	g.t.Helper()
	if g.m.Done() {
		g.t.Fatalf("P21.1: %s: Done, with something to do", g.what)
	}
	ahead := g.hitsAtAll()
	if !g.m.Step() {
		g.t.Fatalf("P21.1: %s: no Step, with something to do", g.what)
	}
	g.noneElse(ahead)
}

// noneElse: what hits now hit ahead, with the same value.
func (g *ground) noneElse(ahead []map[string]uint64) {
	g.t.Helper()
	for i, hits := range g.hitsAtAll() {
		for key, version := range hits {
			if ahead[i][key] != version {
				g.t.Fatalf("P21.3: %s: at %d %q hits with version %d, and did with %d", g.what, ticks[i], key, version, ahead[i][key])
			}
		}
	}
}

// rests: there is nothing to do, and a Step does nothing.
func (g *ground) rests(why string) {
	g.t.Helper()
	was := g.state()
	if !g.m.Done() {
		g.t.Fatalf("%s: %s: not Done, with nothing to do", why, g.what)
	}
	if g.m.Step() {
		g.t.Fatalf("%s: %s: a Step, with nothing to do", why, g.what)
	}
	if now := g.state(); now != was {
		g.t.Fatalf("%s: %s: nothing is to do, but there is\n%s\nand was\n%s", why, g.what, now, was)
	}
}

// settles: at most Bound Steps do something; then all is where it belongs. It
// answers how many.
func (g *ground) settles() int {
	g.t.Helper()
	most, n := Bound(g.c), 0
	for !g.m.Done() {
		if g.steps(); n == most {
			g.t.Fatalf("P21.2: %s: more Steps than Bound, %d", g.what, most)
		}
		n++
	}
	g.isSettled()
	return n
}

func (g *ground) isSettled() {
	g.t.Helper()
	if len(g.drains()) > 0 {
		g.t.Fatalf("P21.2: %s: members are Draining: %v", g.what, g.c.Roster().Members)
	}
	for _, now := range ticks {
		for key := range g.hits(now) {
			for _, n := range g.topOf(key) {
				if !g.holds(n, key) {
					g.t.Fatalf("P21.2: %s: %q hits at %d, but %d hasn't it: %q", g.what, key, now, n, g.all(key))
				}
			}
		}
	}
	was := g.sectors()
	g.rests("P21.2")
	if g.sectors() != was {
		g.t.Fatalf("P21.2: %s: a Step writes, with nothing to do", g.what)
	}
}

// drains answers the members that are Draining.
func (g *ground) drains() []int {
	var l []int
	for _, x := range g.c.Roster().Members {
		if x.State == roster.Draining {
			l = append(l, x.Serial)
		}
	}
	return l
}

// answers: that is what is read, at that tick.
func (g *ground) answers(why, key string, now int, want string, hit bool) {
	g.t.Helper()
	if v, is, e := fetch.Get(g.c, key, now); v != want || is != hit || e != api.OK {
		g.t.Fatalf("%s: %s: Get of %q at %d: %q, %v, %v, not %q, %v", why, g.what, key, now, v, is, e, want, hit)
	}
}

// reads: what hits is that version's value.
func (g *ground) reads() {
	g.t.Helper()
	for _, now := range ticks {
		hits := g.hits(now)
		for _, key := range slices.Sorted(maps.Keys(hits)) {
			g.answers("P21.3", key, now, textOf(key, hits[key]), true)
		}
	}
}

// puts lets a key have a value that tells its version: a Put takes the one behind
// that which is taken here.
func (g *ground) puts(key string, expiry int) {
	g.t.Helper()
	version, is := g.c.Version()
	if !is {
		g.t.Fatalf("%s: no Version", g.what)
	}
	if _, e := mutate.Put(g.c, key, textOf(key, version+1), expiry); e != api.OK {
		g.t.Fatalf("%s: Put of %q: %v", g.what, key, e)
	}
}

func (g *ground) drops(key string) {
	g.t.Helper()
	if e := mutate.Drop(g.c, key); e != api.OK {
		g.t.Fatalf("%s: Drop of %q: %v", g.what, key, e)
	}
}

// ok: a call went well.
func (g *ground) ok(what string, e api.Errno) {
	g.t.Helper()
	if e != api.OK {
		g.t.Fatalf("%s: %s: %v", g.what, what, e)
	}
}

// keyOf answers a key whose first ones among all devices are those, in that order.
func keyOf(t *testing.T, first ...int) string {
	t.Helper()
	return keysOf(t, 1, first...)[0]
}

// keysOf answers several ones, rising.
func keysOf(t *testing.T, many int, first ...int) []string {
	t.Helper()
	var l []string
	for i := range 100000 {
		key := fmt.Sprint("k", i+100000)
		if slices.Equal(rank.Top(key, serials(2, last), len(first)), first) {
			if l = append(l, key); len(l) == many {
				return l
			}
		}
	}
	t.Fatalf("no keys have the top %v", first)
	return nil
}

// calms: what didn't strike isn't to strike what comes behind.
func (g *ground) calms() {
	g.p.Halt(-1)
	for n := range last + 1 {
		g.p.Arm(n, 1<<40, false)
	}
}
