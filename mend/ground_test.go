package mend

import (
	"fmt"
	"slices"
	"strings"
	"testing"

	"bandolier/api"
	"bandolier/crew"
	"bandolier/fetch"
	"bandolier/flash"
	"bandolier/medium"
	"bandolier/mutate"
	"bandolier/record"
	"bandolier/store"
)

const anchor = 1

// A ground is a crew on a pool with an anchor, and devices from 2 on.
type ground struct {
	t    *testing.T
	p    *flash.Pool
	c    *crew.Crew
	what string
}

func newGround(t *testing.T, copies, members int) *ground {
	t.Helper()
	return newGroundOf(t, crew.Config{Anchor: anchor, Copies: copies, Per: 8}, 33, members)
}

func newGroundOf(t *testing.T, config crew.Config, sectors, members int) *ground {
	t.Helper()
	g := &ground{t: t, p: flash.New()}
	g.p.Add(anchor, 32)
	var l []int
	for n := 2; n < 2+members; n++ {
		g.p.Add(n, sectors)
		l = append(l, n)
	}
	c, e := crew.Format(g.p, config, l)
	if e != api.OK {
		t.Fatalf("Format: %v", e)
	}
	g.c = c
	return g
}

// lays lets a member have an entry of a key, whatever the others have.
func (g *ground) lays(serial int, key string, version uint64, kind int) {
	g.t.Helper()
	g.laysEntry(serial, record.Entry{Key: key, Version: version, Kind: kind})
}

func (g *ground) laysValue(serial int, key string, version uint64, text string) {
	g.t.Helper()
	g.laysEntry(serial, record.Entry{Key: key, Version: version, Kind: record.Value, Value: text})
}

func (g *ground) laysEntry(serial int, e record.Entry) {
	g.t.Helper()
	if !g.c.Do(serial, func(s *store.Store) { s.Put(e) }) {
		g.t.Fatalf("%s: Do of %d failed", g.what, serial)
	}
}

// laysAs lets members have what a text says, word by word: its serial, ":", v or
// t, its version, with h behind it if it is hidden.
func (g *ground) laysAs(key, text string) {
	g.t.Helper()
	for _, word := range strings.Fields(text) {
		var serial int
		var version uint64
		var kind rune
		fmt.Sscanf(word, "%d:%c%d", &serial, &kind, &version)
		g.lays(serial, key, version, map[rune]int{'v': record.Value, 't': record.Tomb}[kind])
		if strings.HasSuffix(word, "h") {
			g.c.Store(serial).Hide(key)
		}
	}
}

// has answers what a store's slot of a key is, in those words' way.
func has(s *store.Store, key string) string {
	x, is := s.Get(key)
	if !is {
		return ""
	}
	text := fmt.Sprint(map[int]string{record.Value: "v", record.Tomb: "t"}[x.Kind], x.Version)
	if x.Hidden {
		text += "h"
	}
	return text
}

// all answers what all members have of a key, in those words.
func (g *ground) all(key string) string {
	var l []string
	for _, n := range g.c.Members() {
		if s := has(g.c.Store(n), key); s != "" {
			l = append(l, fmt.Sprint(n, ":", s))
		}
	}
	return strings.Join(l, " ")
}

func (g *ground) hold(why, key, want string) {
	g.t.Helper()
	if got := g.all(key); got != want {
		g.t.Fatalf("%s: %s: of %q there is %q, not %q", why, g.what, key, got, want)
	}
}

// orders: Order goes well, with so many tombs; behind it, it is Whole, and
// another one does nothing.
func (g *ground) orders(want int) {
	g.t.Helper()
	if n, well := Order(g.c); n != want || !well {
		g.t.Fatalf("P20.1: %s: Order: %d, %v, not %d tombs", g.what, n, well, want)
	}
	g.isOrdered()
}

func (g *ground) isOrdered() {
	g.t.Helper()
	if !mutate.Whole(g.c) {
		g.t.Fatalf("P20.1: %s: it isn't Whole", g.what)
	}
	count := g.p.Count()
	if n, well := Order(g.c); n != 0 || !well || g.p.Count() != count {
		g.t.Fatalf("P20.1: %s: it is Whole, but Order: %d, %v, in %d operations", g.what, n, well, g.p.Count()-count)
	}
}

// opens: Open goes well; how many tombs?
func (g *ground) opens() int {
	g.t.Helper()
	config := crew.Config{Anchor: anchor, Copies: 2, Per: 8}
	if g.c != nil {
		config = g.c.Config()
	}
	c, n, e := Open(g.p, config)
	if e != api.OK || c == nil {
		g.t.Fatalf("P20.2: %s: Open: %v", g.what, e)
	}
	if c.Stopped() || !mutate.Whole(c) {
		g.t.Fatalf("P20.2: %s: behind an Open it isn't Whole", g.what)
	}
	g.c = c
	return n
}

// opensAsItWas: behind a crash with nothing broken off each key hits as it did,
// and no tomb is put.
func (g *ground) opensAsItWas(stays ...int) {
	g.t.Helper()
	was := g.hits()
	g.p.Crash(stays...)
	if n := g.opens(); n != 0 {
		g.t.Fatalf("P20.3: %s: %d tombs, though nothing was broken off", g.what, n)
	}
	for key, text := range was {
		if v, is, e := fetch.Get(g.c, key, 0); v != text || !is || e != api.OK {
			g.t.Fatalf("P20.3: %s: %q hit, with %q, and answers %q, %v, %v now", g.what, key, text, v, is, e)
		}
	}
}

// hits answers all that hits at 0, with its value.
func (g *ground) hits() map[string]string {
	g.t.Helper()
	m := map[string]string{}
	for _, key := range fetch.Keys(g.c) {
		if v, is, e := fetch.Get(g.c, key, 0); is {
			m[key] = v
		} else if e != api.OK {
			g.t.Fatalf("%s: Get of %q: %v", g.what, key, e)
		}
	}
	return m
}

// values answers what the holders of a key have, each value once.
func (g *ground) values(key string) []string {
	g.t.Helper()
	var l []string
	for _, n := range g.c.Members() {
		var x record.Entry
		if !g.c.Do(n, func(s *store.Store) { x, _ = s.Read(key) }) {
			g.t.Fatalf("%s: Do of %d failed", g.what, n)
		}
		if x.Kind == record.Value && !slices.Contains(l, x.Value) {
			l = append(l, x.Value)
		}
	}
	return l
}

func (g *ground) puts(key, text string) {
	g.t.Helper()
	if _, e := mutate.Put(g.c, key, text, 0); e != api.OK {
		g.t.Fatalf("%s: Put of %q: %v", g.what, key, e)
	}
}

// isStopped: Order says so, and does nothing.
func (g *ground) isStopped() {
	g.t.Helper()
	if !g.c.Stopped() {
		g.t.Fatalf("P20.1: %s: it isn't stopped", g.what)
	}
	count := g.p.Count()
	if n, well := Order(g.c); n != 0 || well {
		g.t.Errorf("P20.1: %s: it is stopped, but Order: %d, %v", g.what, n, well)
	}
	if g.p.Count() != count {
		g.t.Errorf("P20.1: %s: it is stopped, but Order does something", g.what)
	}
}

// sectors answers all that is on the devices.
func (g *ground) sectors() string {
	g.t.Helper()
	var all strings.Builder
	for n := 1; n < 20; n++ {
		if m, e := medium.Of(g.p, n); e == api.OK {
			if b, is := medium.Guard(func() { all.WriteString(m.Read(0, m.Size())) }); is {
				g.t.Fatalf("%s: %v", g.what, b)
			}
		}
	}
	return all.String()
}

// calms: what didn't strike isn't to strike what comes behind.
func (g *ground) calms() {
	g.p.Halt(-1)
	for n := range 20 {
		g.p.Arm(n, 1<<40, false)
	}
}

// A breach is how a call is broken off: a device's operation behind after
// further ones fails (done or not), or all halts there (device 0); the anchor's
// operation behind anchorAfter ones fails, too (below 0: it doesn't).
type breach struct {
	device, after int
	done          bool
	anchorAfter   int
}

func (g *ground) strikes(b breach) {
	if b.device == 0 {
		g.p.Halt(b.after)
	} else {
		g.p.Arm(b.device, b.after, b.done)
	}
	if b.anchorAfter >= 0 {
		g.p.Arm(anchor, b.anchorAfter, b.done)
	}
}

// breaches: whichever way that operation fails; the anchor fails by itself, or
// behind so many operations, too; where all is down, it is down with them.
func breaches(after int, anchors []int, devices ...int) []breach {
	l := []breach{{0, after, false, -1}, {anchor, after, false, -1}, {anchor, after, true, -1}}
	for _, device := range devices {
		for _, anchorAfter := range append([]int{-1}, anchors...) {
			l = append(l, breach{device, after, false, anchorAfter}, breach{device, after, true, anchorAfter})
		}
	}
	return l
}

// brokenOff lets a call be broken off at each of its operations, in each way, of
// a ground that is made anew each time, and hands each time on what became of
// it.
func brokenOff(make func() *ground, call func(g *ground), look func(g *ground, b breach), anchors []int, devices ...int) {
	g := make()
	before := g.p.Count()
	call(g)
	for after := range g.p.Count() - before + 1 {
		for _, b := range breaches(after, anchors, devices...) {
			g := make()
			g.what = fmt.Sprint(g.what, ", fails ", b)
			g.strikes(b)
			call(g)
			g.calms()
			look(g, b)
		}
	}
}
