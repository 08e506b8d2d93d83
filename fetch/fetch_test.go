package fetch

import (
	"fmt"
	"math"
	"reflect"
	"slices"
	"strings"
	"testing"

	"bandolier/api"
	"bandolier/crew"
	"bandolier/mutate"
	"bandolier/record"
)

// The chapter's example.
func TestExample(t *testing.T) {
	g := newGround(t, 2)
	if o, e := mutate.Put(g.c, "a", "x", 9); o != mutate.Stored || e != api.OK {
		t.Fatalf("Put: %d, %v", o, e)
	}
	g.answers("P19.1", "a", 8, "x", true)
	g.misses("P19.1", "a", 9)
}

// Of what nobody holds there is nothing: of no key, of a tomb, with no members.
func TestNobodyHolds(t *testing.T) {
	g := newGround(t, 3)
	for _, key := range []string{"", "a", "\x00", strings.Repeat("k", api.MaxKey), strings.Repeat("k", 5000), "\xff\xfe"} {
		for _, now := range []int{math.MinInt, -1, 0, 1, api.MaxTick, math.MaxInt} {
			g.misses("P19.1", key, now)
		}
	}
	g.lays(2, tomb("a"))
	g.misses("P19.1", "a", 0)
	g.lays(3, value("b", "x", 0))
	g.lays(3, tomb("b"))
	g.misses("P19.1", "b", 0)
	g.lays(3, value("b", "", 0))
	g.answers("P19.1", "b", 0, "", true)
	for n := 2; n < 5; n++ {
		g.c.Leave(n)
	}
	g.misses("P19.1", "b", 0)
	if l := Keys(g.c); len(l) != 0 {
		t.Errorf("P19.1: there are no members, but the keys %q", l)
	}
}

// A value whose expiry is 0 is never over; else it is from that tick on.
func TestOver(t *testing.T) {
	g := newGround(t, 2)
	for i, x := range []struct {
		expiry, now int
		over        bool
	}{
		{0, math.MinInt, false}, {0, -1, false}, {0, 0, false}, {0, 1, false}, {0, math.MaxInt, false},
		{1, -1, false}, {1, 0, false}, {1, 1, true}, {1, 2, true},
		{9, 8, false}, {9, 9, true}, {9, 10, true}, {9, math.MinInt, false}, {9, math.MaxInt, true},
		{api.MaxTick, api.MaxTick - 1, false}, {api.MaxTick, api.MaxTick, true}, {api.MaxTick, api.MaxTick + 1, true},
	} {
		g.what = fmt.Sprint("expiry ", x.expiry)
		key, text := fmt.Sprint("k", i), fmt.Sprint("v", i)
		g.lays(3, value(key, text, x.expiry))
		if x.over {
			g.misses("P19.1", key, x.now)
			continue
		}
		g.answers("P19.1", key, x.now, text, true)
	}
}

// Whose slot is over, hidden, or a tomb, isn't asked, though it comes first.
func TestLeftOut(t *testing.T) {
	for _, l := range [][]int{{2, 3, 4}, {4, 3, 2}, {3, 4, 2}, {3, 2, 4}} {
		key := keyIn(t, l...)
		for why, lays := range map[string]func(g *ground, n int){
			"over":   func(g *ground, n int) { g.lays(n, value(key, "over", 5)) },
			"hidden": func(g *ground, n int) { g.lays(n, value(key, "hidden", 0)); g.c.Store(n).Hide(key) },
			"a tomb": func(g *ground, n int) { g.lays(n, tomb(key)) },
			"none":   func(*ground, int) {},
		} {
			g := newGround(t, 3)
			g.what = fmt.Sprint(l, ", the first of them are ", why)
			g.laysAll(key, "", 2, 3, 4)
			for i, n := range l {
				g.answers("P19.1", key, 5, fmt.Sprint("on", n), true)
				if why == "none" {
					g.c.Leave(n)
				}
				lays(g, n)
				if i == len(l)-1 {
					g.misses("P19.1", key, 5)
				}
			}
		}
	}
}

// The first holder by Order is read, whatever it holds beside the others; in
// whatever state its member is.
func TestFirst(t *testing.T) {
	g := newGround(t, 5)
	for i := range 60 {
		key := fmt.Sprint("k", i)
		var holders []int
		for n := 2; n < 7; n++ {
			if (i+1)>>(n-2)&1 == 1 {
				holders = append(holders, n)
				e := value(key, fmt.Sprint("on", n), 0)
				e.Version = uint64(100 - n*i)
				if e.Version > 100 {
					e.Version = uint64(i)
				}
				g.lays(n, e)
			}
		}
		g.what = fmt.Sprint("held by ", holders)
		if len(holders) > 0 {
			g.answers("P19.1", key, 0, fmt.Sprint("on", order(key, holders...)[0]), true)
		}
	}
	key := keyIn(t, 5, 6, 4, 3, 2)
	g.laysAll(key, "", 4, 5, 6)
	g.what = "one that is to go"
	if e := g.c.Drain(5); e != api.OK {
		t.Fatalf("Drain: %v", e)
	}
	g.answers("P19.1", key, 0, "on5", true)
	if e := g.c.Leave(5); e != api.OK {
		t.Fatalf("Leave: %v", e)
	}
	g.answers("P19.1", key, 0, "on6", true)
}

// Get lets the slot that was read be hot, and changes nothing else; Hits and
// Keys change nothing at all. The value is read, and no more of the devices.
func TestChanges(t *testing.T) {
	key := keyIn(t, 3, 4, 2)
	g := newGround(t, 3)
	g.laysAll(key, long, 2, 3, 4)
	g.lays(3, value("other", "x", 0))
	g.lays(4, value("over", "x", 3))
	g.c.Store(2).Hide(key)
	before := g.looks()
	for range 2 {
		count := g.p.Count()
		Hits(g.c, key, 0)
		Hits(g.c, "none", 0)
		Keys(g.c)
		if g.p.Count() != count {
			t.Errorf("P19.3: Hits, Keys work on the devices")
		}
		if now := g.looks(); !reflect.DeepEqual(now, before) {
			t.Errorf("P19.3: Hits, Keys change something: %v, not %v", now, before)
		}
		g.misses("P19.3", "none", 0)
		g.misses("P19.3", "over", 3)
		if now := g.looks(); !reflect.DeepEqual(now, before) {
			t.Errorf("P19.3: a Get that misses changes something: %v, not %v", now, before)
		}
		count = g.p.Count()
		g.answers("P19.3", key, 0, "on3"+long, true)
		if n := g.p.Count() - count; n != 3 {
			t.Errorf("P19.3: Get of three sectors has %d operations", n)
		}
		hot := before.slots["3"+key]
		hot.Hot = true
		before.slots["3"+key] = hot
		if now := g.looks(); !reflect.DeepEqual(now, before) {
			t.Errorf("P19.3: Get changes more than that a slot is hot: %v, not %v", now, before)
		}
	}
	if v, is := g.c.Version(); v != 1 || !is {
		t.Errorf("P19.3: behind any Gets the version is %d, %v", v, is)
	}
	g.p.Crash()
	if l := g.said(); !slices.Equal(l, []int{2, 3, 4}) {
		t.Errorf("P19.3: the members are %v", l)
	}
}

// All keys that are shown on some member, each once; over or not.
func TestKeys(t *testing.T) {
	g := newGround(t, 3)
	isKeys := func(want ...string) {
		t.Helper()
		if l := Keys(g.c); !slices.Equal(l, want) {
			t.Fatalf("P19.1: the keys are %q, not %q", l, want)
		}
	}
	isKeys()
	g.laysAll("b", "", 2, 3, 4)
	g.laysAll("c", "", 4)
	g.laysAll("a", "", 3)
	g.laysAll("\xff", "", 2)
	g.laysAll("B", "", 2)
	g.laysAll("ba", "", 3)
	isKeys("B", "a", "b", "ba", "c", "\xff")
	g.lays(4, tomb("c"))
	g.lays(4, tomb("d"))
	g.lays(4, value("e", "x", 1))
	isKeys("B", "a", "b", "ba", "e", "\xff")
	for _, n := range []int{2, 4, 3} {
		isKeys("B", "a", "b", "ba", "e", "\xff")
		g.c.Store(n).Hide("b")
	}
	isKeys("B", "a", "ba", "e", "\xff")
	g.lays(3, tomb("b")) // of the others it is hidden
	isKeys("B", "a", "ba", "e", "\xff")
	g.laysAll("b", "", 3)
	isKeys("B", "a", "b", "ba", "e", "\xff")
	l := Keys(g.c)
	clear(l)
	_ = append(l, "more")
	isKeys("B", "a", "b", "ba", "e", "\xff")
	g.c.Leave(3)
	isKeys("B", "e", "\xff")
	g.p.Crash()
	g.opens()
	isKeys("B", "b", "e", "\xff") // nothing is hidden any more
}

func (g *ground) opens() {
	g.t.Helper()
	c, e := crew.Open(g.p, g.c.Config())
	if e != api.OK {
		g.t.Fatalf("%s: Open: %v", g.what, e)
	}
	g.c = c
}

// Whatever there is, Keys, Hits and Get fit: what Hits at a tick is answered,
// and its key is there.
func TestFit(t *testing.T) {
	g := newGround(t, 4)
	for i := range 200 {
		n, key := 2+i%4, fmt.Sprint("k", i*7%11)
		switch i * i % 7 {
		case 0:
			g.c.Store(n).Hide(key)
		case 1:
			g.lays(n, tomb(key))
		default:
			g.lays(n, value(key, fmt.Sprint("on", n, ",", i), i*i%13))
		}
		now := i * 5 % 13
		g.what = fmt.Sprint("step ", i)
		var keys []string
		for j := range 11 {
			key := fmt.Sprint("k", j)
			text, is, there := g.plainly(key, now)
			g.answers("P19.1", key, now, text, is)
			if there {
				keys = append(keys, key)
			}
		}
		slices.Sort(keys)
		if l := Keys(g.c); !slices.Equal(l, keys) {
			t.Fatalf("P19.1: %s: the keys are %q, not %q", g.what, l, keys)
		}
	}
}

// plainly answers what a key has by the chapter's words, one holder by one:
// its value, and if some member holds it, not hidden.
func (g *ground) plainly(key string, now int) (string, bool, bool) {
	g.t.Helper()
	var there bool
	for _, n := range order(key, g.c.Members()...) {
		s := g.c.Store(n)
		x, is := s.Get(key)
		if !is || x.Kind == record.Tomb || x.Hidden {
			continue
		}
		there = true
		if x.Expiry == 0 || x.Expiry > now {
			e, _ := s.Read(key)
			return e.Value, true, true
		}
	}
	return "", false, there
}
