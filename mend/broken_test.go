package mend

import (
	"fmt"
	"slices"
	"strings"
	"testing"

	"bandolier/api"
	"bandolier/crew"
	"bandolier/mutate"
	"bandolier/rank"
	"bandolier/store"
)

// unordered: what some members of four have of some keys.
var unordered = map[string]string{
	"a": "2:v1 3:v3 5:v2h", "b": "2:v6 3:v4 4:v5", "c": "4:v7 5:t8", "d": "2:v9 4:v9", "e": "2:t10 3:v9 4:t8",
}

func newUnordered(t *testing.T) *ground {
	t.Helper()
	g := newGround(t, 2, 4)
	for _, key := range []string{"e", "c", "a", "d", "b"} {
		g.laysAs(key, unordered[key])
	}
	return g
}

// Order is broken off at each of its operations, by whichever device, with the
// anchor failing, too, or all down.
func TestOrderBroken(t *testing.T) {
	told := map[string]int{}
	var n int
	var well bool
	var all func() int
	brokenOff(func() *ground {
		g := newUnordered(t)
		stores := g.stores()
		ahead := g.tombs(stores)
		all = func() int { return g.tombs(stores) - ahead }
		return g
	}, func(g *ground) {
		n, well = Order(g.c)
	}, func(g *ground, b breach) {
		if !well {
			told["stopped"]++
			if n != 0 {
				t.Errorf("P20.1: %s: %d tombs beside false", g.what, n)
			}
			g.isStopped()
		} else {
			g.isOrdered()
			if n != all() {
				t.Errorf("P20.1: %s: %d tombs, but %d went well", g.what, n, all())
			}
			told[fmt.Sprint(g.c.Outs(), " out")]++
			g.isOut(b)
		}
		g.p.Crash(b.after%2, 1, b.device%2, 0, 1)
		tombs := g.opens()
		if well && tombs != 0 {
			t.Errorf("P20.1: %s: Order went well, but the Open behind it puts %d tombs", g.what, tombs)
		}
		g.fit()
	}, []int{0, 1}, 2, 3, 4, 5)
	if told["stopped"] < 50 || told["0 out"] < 50 || told["1 out"] < 30 || len(told) != 3 {
		t.Errorf("P20.1: Orders ended so: %v", told)
	}
}

// tombs: how many of the unordered keys have one, on those stores.
func (g *ground) tombs(stores []*store.Store) int {
	n := 0
	for key := range unordered {
		n += tombsIn(stores, key)
	}
	return n
}

// isOut: who failed isn't a member any more, in the anchor neither.
func (g *ground) isOut(b breach) {
	g.t.Helper()
	c, e := crew.Open(g.p, g.c.Config())
	if e != api.OK || !slices.Equal(c.Roster().All(), g.c.Members()) {
		g.t.Fatalf("P20.1: %s: the anchor says %v, the members are %v, %v", g.what, c.Roster().All(), g.c.Members(), e)
	}
	if out := !slices.Contains(g.c.Members(), b.device); b.device > anchor && out != (g.c.Outs() == 1) {
		g.t.Errorf("P20.1: %s: the members are %v, %d were out", g.what, g.c.Members(), g.c.Outs())
	}
}

// fit: a key's holders have what one of them had ahead of it all.
func (g *ground) fit() {
	g.t.Helper()
	for key, ahead := range unordered {
		for _, word := range strings.Fields(g.all(key)) {
			if word[2] == 'v' && !strings.Contains(ahead, word) {
				g.t.Errorf("P20.2: %s: of %q there is %q", g.what, key, g.all(key))
			}
		}
	}
}

// All is done anew, of those that are members then: what nobody has any more
// makes nothing an elder value; who has a tomb already gets none again.
func TestDoneAnew(t *testing.T) {
	g := newGround(t, 2, 4)
	g.laysAs("a", "2:v1 3:v1 4:v2")
	g.laysAs("b", "3:v2 4:v1 5:v1")
	g.p.Arm(3, 0, false)
	g.orders(1)
	g.hold("P20.1", "a", "2:t2 4:v2")
	g.hold("P20.1", "b", "4:v1 5:v1")

	g = newGround(t, 2, 4)
	g.laysAs("a", "2:v1 3:v1 4:v2 5:v1")
	for n := 2; n < 6; n++ {
		g.p.Arm(n, 3, n%2 == 0) // its last operation
	}
	g.orders(0)
	g.hold("P20.1", "a", "4:v2")
	if g.c.Outs() != 3 {
		t.Errorf("P20.1: %d were out", g.c.Outs())
	}

	g = newGround(t, 2, 3)
	g.laysAs("a", "2:v1 3:v2 4:v3")
	g.laysAs("b", "2:v2 3:v1 4:v2")
	g.p.Arm(3, 4, false) // behind its tomb of a
	g.orders(2)
	g.hold("P20.1", "a", "2:t3 4:v3")
	g.hold("P20.1", "b", "2:v2 4:v2")
}

// A scene is what a key has ahead of a call, and to whom it belongs.
type scene struct {
	copies  int
	key     string
	holders []int
}

// keyOf answers a key whose top among 2 to 5 is just that.
func keyOf(t *testing.T, top ...int) string {
	t.Helper()
	for i := range 100000 {
		key := fmt.Sprint("k", i)
		l := rank.Top(key, []int{2, 3, 4, 5}, len(top))
		slices.Sort(l)
		if slices.Equal(l, top) {
			return key
		}
	}
	t.Fatalf("no key has the top %v", top)
	return ""
}

// scenes: of 2 to 5, of which the key belongs to some, and is held by some.
func scenes(t *testing.T) []scene {
	t.Helper()
	var l []scene
	for _, x := range [][2][]int{
		{{2}, {5}}, {{5}, {2}}, {{3, 5}, nil}, {{2, 4}, {2, 4}}, {{2, 3}, {4, 5}}, {{4, 5}, {2, 3}}, {{3, 4}, {2, 3, 4}},
		{{2, 4, 5}, {3, 4}}, {{2, 3, 4, 5}, {2, 3, 4, 5}},
	} {
		l = append(l, scene{len(x[0]), keyOf(t, x[0]...), x[1]})
	}
	return l
}

// make answers a ground with the scene: its key has the value "old", another one
// the value "other".
func (s scene) make(t *testing.T) *ground {
	t.Helper()
	g := newGround(t, s.copies, 4)
	g.what = fmt.Sprint(s.copies, " copies of ", s.key, ", held by ", s.holders)
	g.puts("other", "other")
	version, _ := g.c.Version()
	for _, n := range s.holders {
		g.laysValue(n, s.key, version, "old")
	}
	return g
}

// allows: each holder has one and the same of those values.
func (g *ground) allows(key string, allowed ...string) {
	g.t.Helper()
	l := g.values(key)
	if len(l) > 1 || len(l) == 1 && !slices.Contains(allowed, l[0]) {
		g.t.Fatalf("P20.2: %s: of %q there is %q, the members have %q", g.what, key, l, g.all(key))
	}
}

// settles: behind a crash, and an Open, it is Whole, with one of those values;
// and as it is then, it stays.
func (s scene) settles(g *ground, stays []int, allowed ...string) {
	g.t.Helper()
	g.p.Crash(stays...)
	g.what = fmt.Sprint(g.what, ", stays ", stays)
	tombs := g.opens()
	g.allows(s.key, allowed...)
	if !slices.Equal(g.values("other"), []string{"other"}) && len(g.c.Members()) == 4 {
		g.t.Fatalf("P20.2: %s: what was put isn't there: %q", g.what, g.values("other"))
	}
	if tombs > 0 && len(allowed) == 1 {
		g.t.Fatalf("P20.2: %s: %d tombs, though it was acknowledged", g.what, tombs)
	}
	g.opensAsItWas(stays...)
}

// stays: what a crash leaves.
var stays = [][]int{
	nil,
	{1, 1, 1, 1, 1, 1, 1, 1, 1, 1, 1, 1, 1, 1, 1, 1},
	{0, 1, 0, 1, 0, 1},
	{1, 0, 1, 0, 1, 0},
}

// calls are what is broken off: what it puts, the values that may be behind it.
var calls = map[string]func(g *ground, key string) api.Errno{
	"new": func(g *ground, key string) api.Errno {
		_, e := mutate.Put(g.c, key, "new", 0)
		return e
	},
	"": func(g *ground, key string) api.Errno { return mutate.Drop(g.c, key) },
}

// A Put and a Drop are broken off at any operation, by a crash, or by devices
// that fail; then there is a crash, and an Open.
func TestMutationBroken(t *testing.T) {
	told := map[string]int{}
	for _, s := range scenes(t) {
		for text, call := range calls {
			var e api.Errno
			brokenOff(func() *ground { return s.make(t) }, func(g *ground) {
				e = call(g, s.key)
			}, func(g *ground, b breach) {
				told[fmt.Sprintf("%q %d", text, e)]++
				left := stays[(b.after+b.device)%len(stays)]
				switch e {
				case api.OK:
					s.settles(g, left, text)
				case api.ErrUnavailable:
					s.settles(g, left, "old", text)
				default:
					t.Fatalf("P20.2: %s: %v", g.what, e)
				}
			}, []int{0, 1}, 2, 3, 4, 5)
		}
	}
	for _, how := range []string{`"new" 0`, `"new" 16`, `"" 0`, `"" 16`} {
		if told[how] < 200 {
			t.Errorf("P20.2: ended so: %v", told)
		}
	}
}

// A Put, or a Drop, is broken off, and so is the Open behind it, at any
// operation; then there is a crash, and an Open that is not.
func TestOpenBroken(t *testing.T) {
	told := map[string]int{}
	for i, s := range scenes(t)[3:5] {
		for text, call := range calls {
			for _, after := range []int{4, 7} {
				var e api.Errno
				brokenOff(func() *ground {
					g := s.make(t)
					g.what = fmt.Sprint(g.what, ", down behind ", after)
					g.p.Halt(after)
					if e := call(g, s.key); e != api.ErrUnavailable {
						t.Fatalf("%s: %v", g.what, e)
					}
					g.p.Crash(1, i, after/4, 1)
					return g
				}, func(g *ground) {
					var c *crew.Crew
					var n int
					if c, n, e = Open(g.p, g.c.Config()); e != api.OK && (c != nil || n != 0) {
						t.Errorf("P20.2: %s: %d beside %v", g.what, n, e)
					}
					if e == api.OK {
						g.c = c
						g.isOrdered()
					}
				}, func(g *ground, b breach) {
					told[fmt.Sprint(e)]++
					if e != api.OK && e != api.ErrIO && e != api.ErrUnavailable {
						t.Fatalf("P20.2: %s: %v", g.what, e)
					}
					s.settles(g, stays[b.after%len(stays)], "old", text)
				}, []int{33, 36, 37}, 3, 4) // the anchor is read first, and its roster written
			}
		}
	}
	if told["0"] < 2000 || told["7"] < 500 || told["16"] < 500 {
		t.Errorf("P20.2: Opens ended so: %v", told)
	}
}

// A device fails as Order works on it, and the anchor as it is to say so: the
// Open answers ErrUnavailable, and nothing beside.
func TestOpenStopped(t *testing.T) {
	told := map[api.Errno]int{}
	for after := range 12 {
		g := newUnordered(t)
		count := g.p.Count()
		if _, e := crew.Open(g.p, g.c.Config()); e != api.OK {
			t.Fatalf("the crew's Open: %v", e)
		}
		g.what = fmt.Sprint("fails behind ", after, " of Order")
		g.p.Halt(g.p.Count() - count + after)
		c, n, e := Open(g.p, g.c.Config())
		told[e]++
		if e == api.OK && (c == nil || n == 0) || e != api.OK && (c != nil || n != 0 || e != api.ErrUnavailable) {
			t.Errorf("P20.2: %s: %v, %d, %v", g.what, c != nil, n, e)
		}
		g.p.Crash(1)
		g.opens()
		g.fit()
	}
	if told[api.ErrUnavailable] != 12 {
		t.Errorf("P20.2: Opens ended so: %v", told)
	}
}
