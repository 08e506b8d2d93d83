package moves

import (
	"fmt"
	"slices"
	"testing"

	"bandolier/api"
	"bandolier/crew"
	"bandolier/fetch"
	"bandolier/flash"
	"bandolier/mutate"
	"bandolier/rank"
	"bandolier/record"
	"bandolier/store"
)

// Of three members, to all of which all keys belong: what they have ahead of a
// Step, and behind it.
func TestStep(t *testing.T) {
	for have, want := range map[string]string{
		"2:v1":              "2:v1 3:v1 4:v1", // short on several
		"3:v1":              "2:v1 3:v1 4:v1",
		"4:v1":              "2:v1 3:v1 4:v1",
		"2:v1 3:v1":         "2:v1 3:v1 4:v1", // on one
		"2:v1 4:v1":         "2:v1 3:v1 4:v1",
		"3:v1 4:v1":         "2:v1 3:v1 4:v1",
		"2:v1h 3:v1 4:v1":   "2:v1 3:v1 4:v1", // hidden there
		"2:v1 3:v1h 4:v1":   "2:v1 3:v1 4:v1",
		"2:v1 3:v1h 4:v1h":  "2:v1 3:v1 4:v1",
		"2:v1h 3:v1":        "2:v1 3:v1 4:v1", // and not there
		"2:t1 3:v1 4:v1":    "2:v1 3:v1 4:v1", // a tomb there
		"2:t1 3:v2 4:t2":    "2:v2 3:v2 4:v2",
		"2:t1h 3:v2h 4:v2":  "2:v2 3:v2 4:v2",
		"2:v7o":             "2:v7o 3:v7o 4:v7o", // it expires
		"2:v7oh 3:t7 4:v7o": "2:v7o 3:v7o 4:v7o",
		"2:t9 3:v1":         "2:v1 3:v1 4:v1", // out of order
		"2:v9h 3:v1o 4:v1o": "2:v1o 3:v1o 4:v1o",
		"2:t1 3:t2 4:v300":  "2:v300 3:v300 4:v300",
		"2:v9 3:v9 4:v1h":   "2:v9 3:v9 4:v9",
		"2:v9 3:t18 4:v9":   "2:v9 3:v9 4:v9",
	} {
		g := newGround(t, 3, 3)
		g.what = have
		g.lays("a", have)
		g.steps()
		g.hold("P21.1", "a", want)
		g.isSettled()
		g.reads()
	}
}

// What isn't short: no Step does anything.
func TestNoStep(t *testing.T) {
	for _, have := range []string{
		"", "2:v1 3:v1 4:v1", "2:v7o 3:v7o 4:v7o", "2:v1 3:v2 4:v3",
		"2:v1h", "4:v1h", "2:v1h 3:v1h", "2:v1h 3:v1h 4:v1h", "2:v1h 3:t1", "2:v2h 3:t1 4:v2h",
		"2:t1", "2:t1 3:t1 4:t1", "3:t1h 4:t2",
	} {
		for _, copies := range []int{3, 4} {
			g := newGround(t, copies, 3)
			g.what = fmt.Sprint(copies, " copies, ", have)
			g.lays("a", have)
			g.rests("P21.1")
			g.m.Touch()
			g.rests("P21.1")
			g.hold("P21.1", "a", have)
			if New(g.c).Step() {
				t.Errorf("P21.1: %s: a Step of another Mover", g.what)
			}
		}
	}
}

// A key is to be on its top alone, of whatever members it is held.
func TestTop(t *testing.T) {
	for _, copies := range []int{1, 2, 3, 4} {
		for i := range 40 {
			key := fmt.Sprint("key", i)
			order := rank.Order(key, serials(2, 6))
			top := slices.Sorted(slices.Values(order[:copies]))
			for at, holder := range order {
				g := newGround(t, copies, 5)
				g.what = fmt.Sprint(copies, " copies, ", key, " on ", holder, " of ", order)
				g.lays(key, fmt.Sprint(holder, ":v3o"))
				if at < copies && copies == 1 {
					g.rests("P21.1")
				} else {
					g.steps()
				}
				want := slices.Clone(top)
				if at >= copies {
					want = slices.Sorted(slices.Values(append(want, holder)))
				}
				text := ""
				for _, n := range want {
					text += fmt.Sprint(" ", n, ":v3o")
				}
				g.hold("P21.1", key, text[1:])
				g.isSettled()
			}
		}
	}
}

// Where a key isn't to be, it may be hidden, or a tomb, or not be: it isn't short
// by that, and it is hidden there on.
func TestElsewhere(t *testing.T) {
	key := keyOf(t, 5, 2)
	for _, have := range []string{"2:v1 5:v1", "2:v1 3:v1h 5:v1", "2:v1 3:t1 4:v1h 5:v1", "2:v1 3:v1 4:v1 5:v1"} {
		g := newGround(t, 2, 4)
		g.lays(key, have)
		g.rests("P21.1")
		g.hold("P21.1", key, have)
	}
	g := newGround(t, 2, 4)
	g.lays(key, "3:v1h 4:v1 5:v1h")
	g.steps()
	g.hold("P21.1", key, "2:v1 3:v1h 4:v1 5:v1")
	g.isSettled()
}

// The first holder, by the key's order, that isn't hidden is read, and it alone:
// it is hot then. (The members have different versions, so that it shows.)
func TestReads(t *testing.T) {
	for _, x := range []struct {
		order      []int
		have, want string
		hot        int
	}{
		{[]int{2, 3, 4, 5}, "3:v3 4:v4 5:v5", "2:v3 3:v3 4:v4 5:v5", 3},
		{[]int{5, 4, 3, 2}, "2:v2 3:v3 4:v4", "2:v2 3:v3 4:v4 5:v4", 4},
		{[]int{5, 4, 3, 2}, "2:v2 3:v3 4:v4h", "2:v2 3:v3 4:v3 5:v3", 3},
		{[]int{4, 2, 5, 3}, "2:v2 3:v3h 5:t5", "2:v2 3:v3h 4:v2 5:t5", 2},
		{[]int{4, 2, 5, 3}, "2:v2h 3:v3 4:v4 5:v5", "2:v4 3:v3 4:v4 5:v5", 4},
		{[]int{3, 5, 2, 4}, "2:v2 4:v4", "2:v2 3:v2 4:v4 5:v2", 2},
		{[]int{3, 5, 2, 4}, "2:t2 4:v4", "2:t2 3:v4 4:v4 5:v4", 4},
		{[]int{3, 5, 2, 4}, "2:v9h 3:v3o 4:v4", "2:v9h 3:v3o 4:v4 5:v3o", 3}, // over, at a time: it is the first all the same
		{[]int{3, 5, 2, 4}, "2:v2 3:v9oh 4:v4o", "2:v2 3:v2 4:v4o 5:v2", 2},
		{[]int{2, 4, 5, 3}, "3:v1o 5:v1o", "2:v1o 3:v1o 4:v1o 5:v1o", 5},
	} {
		key := keyOf(t, x.order...)
		g := newGround(t, 2, 4)
		g.what = fmt.Sprint(x.order, ": ", x.have)
		g.lays(key, x.have)
		g.m.Step()
		g.hold("P21.1", key, x.want)
		for n := 2; n < 6; n++ {
			if s, _ := g.c.Store(n).Get(key); s.Hot != (n == x.hot) {
				t.Errorf("P21.1: %s: hot on %d: %v", g.what, n, s.Hot)
			}
			if s, is := g.c.Store(n).Read(key); is && s.Kind == record.Value && s.Value != textOf(key, s.Version) {
				t.Errorf("P21.1: %s: on %d: %v", g.what, n, s)
			}
		}
	}
}

// What is laid is the entry that was read, to the last byte.
func TestValues(t *testing.T) {
	for _, text := range []string{"", "x", "\x00\xff\x00", string(make([]byte, 63)), fmt.Sprintf("%0*d", api.MaxValue, 7)} {
		for _, expiry := range []int{0, 1, 77, api.MaxTick} {
			e := record.Entry{Key: "a", Version: 1<<63 - 1, Kind: record.Value, Expiry: expiry, Value: text}
			g := newGround(t, 3, 3)
			g.what = fmt.Sprintf("%q till %d", text, expiry)
			g.laysEntry(3, e)
			g.steps()
			for n := 2; n < 5; n++ {
				if x, is := g.c.Store(n).Read("a"); x != e || !is {
					t.Errorf("P21.1: %s: on %d: %v, %v", g.what, n, x, is)
				}
			}
		}
	}
}

// Of several short keys the least one comes, one a Step.
func TestLeastKey(t *testing.T) {
	g := newGround(t, 2, 2)
	keys := []string{"\x00", "A", "a", "a\x00", "aa", "b", "z", "é", "\xff"}
	for _, key := range []string{"z", "a", "\xff", "aa", "A", "é", "a\x00", "b", "\x00"} {
		g.lays(key, "3:v1")
	}
	g.lays("0", "2:v1h") // not short
	g.lays("1", "2:t1")
	g.lays("2", "2:v1 3:v1")
	for i := range keys {
		g.steps()
		for j, key := range keys {
			want := "3:v1"
			if j <= i {
				want = "2:v1 3:v1"
			}
			g.hold("P21.1", key, want)
		}
	}
	g.isSettled()
}

// A key that is less comes first, though it was short later.
func TestLesserKey(t *testing.T) {
	g := newGround(t, 2, 2)
	g.lays("b", "2:v1")
	g.lays("c", "2:v1")
	g.steps()
	g.lays("a", "3:v1")
	g.steps()
	g.hold("P21.1", "a", "2:v1 3:v1")
	g.hold("P21.1", "b", "2:v1 3:v1")
	g.hold("P21.1", "c", "2:v1")
}

// newTried answers a ground of members to which all keys belong, whose key a was
// tried, but is short on 3 again.
func newTried(t *testing.T, copies, members int) *ground {
	t.Helper()
	g := newGround(t, copies, members)
	g.lays("a", "2:v1")
	g.steps()
	g.isSettled()
	g.lays("a", "3:t1")
	return g
}

// hides: a Step hides the key a, and does nothing else.
func (g *ground) hides(why, want string) {
	g.t.Helper()
	count := g.p.Count()
	g.steps()
	g.hold(why, "a", want)
	if g.p.Count() != count {
		g.t.Fatalf("%s: %s: a tried key takes operations", why, g.what)
	}
}

func TestTried(t *testing.T) {
	g := newTried(t, 3, 3)
	g.hides("P21.1", "2:v1h 3:t1 4:v1h")
	g.isSettled()
	g.hold("P21.1", "a", "2:v1h 3:t1 4:v1h") // hidden it is, and not over
	g.answers("P21.1", "a", 0, "", false)
	if x, _ := g.c.Store(3).Get("a"); x.Hidden {
		t.Errorf("P21.1: a tomb is hidden")
	}
	for range 3 {
		g.m.Touch()
		g.rests("P21.1")
	}
	g.lays("a", "3:v2 4:v2") // put anew: it is hidden no more
	g.steps()
	g.hold("P21.1", "a", "2:v2 3:v2 4:v2")
}

// It is hidden wherever it is, also where it isn't to be, and on who is to go.
func TestTriedEverywhere(t *testing.T) {
	key := keyOf(t, 3, 5)
	g := newGround(t, 2, 5)
	g.ok("Drain", g.c.Drain(6))
	g.lays(key, "2:v1 3:v1 4:v1h 6:v1")
	g.steps()
	g.hold("P21.1", key, "2:v1 3:v1 4:v1h 5:v1 6:v1")
	g.lays(key, "5:v1h")
	g.steps()
	g.hold("P21.1", key, "2:v1h 3:v1h 4:v1h 5:v1h 6:v1h")
	g.steps()
	g.members("P21.1", 2, 3, 4, 5)
	g.isSettled()
}

// Each key is tried by itself; hidden, it doesn't come ahead of others any more.
func TestTriedKeys(t *testing.T) {
	g := newTried(t, 3, 3)
	g.lays("b", "2:v1")
	g.lays("c", "2:v1 3:v1h 4:v1")
	g.hides("P21.1", "2:v1h 3:t1 4:v1h")
	g.steps()
	g.hold("P21.1", "b", "2:v1 3:v1 4:v1")
	g.lays("b", "4:v1h")
	g.steps()
	g.hold("P21.1", "b", "2:v1h 3:v1h 4:v1h")
	g.hold("P21.1", "c", "2:v1 3:v1h 4:v1")
	g.steps()
	g.hold("P21.1", "c", "2:v1 3:v1 4:v1")
	g.isSettled()
}

// A key that was short, and isn't by itself, wasn't tried.
func TestNotTried(t *testing.T) {
	g := newGround(t, 3, 3)
	g.lays("a", "2:v1")
	if g.m.Done() {
		t.Fatalf("P21.1: Done")
	}
	g.lays("a", "3:v1 4:v1")
	g.rests("P21.1")
	g.lays("a", "3:t1")
	g.steps()
	g.hold("P21.1", "a", "2:v1 3:v1 4:v1")
}

// Another Mover tried nothing.
func TestMovers(t *testing.T) {
	g := newTried(t, 3, 3)
	g.m = New(g.c)
	g.steps()
	g.hold("P21.1", "a", "2:v1 3:v1 4:v1")
	g.lays("a", "4:t1")
	g.hides("P21.1", "2:v1h 3:v1h 4:t1")
}

// newForgetful answers a ground of 2 to 6, of which 6 is Draining, and a key that
// is to be on 2 and 3, whoever else comes and goes: it was tried, but is short on 3
// again.
func newForgetful(t *testing.T) (*ground, string) {
	t.Helper()
	g := newGround(t, 2, 5)
	g.ok("Drain", g.c.Drain(6))
	key := keyOf(t, 3, 2)
	g.lays(key, "2:v1")
	g.steps()
	g.hold("P21.1", key, "2:v1 3:v1")
	g.lays(key, "3:t1")
	return g, key
}

// isForgotten: it is tried again, or else hidden.
func (g *ground) isForgotten(key string, forgets bool) {
	g.t.Helper()
	want := "2:v1h 3:t1"
	if forgets {
		want = "2:v1 3:v1"
	}
	g.steps()
	g.hold("P21.1", key, want)
}

// What lets all be untried, and what doesn't.
func TestForgets(t *testing.T) {
	for _, x := range []struct {
		what    string
		forgets bool
		do      func(g *ground)
	}{
		{"nothing", false, func(g *ground) {}},
		{"Touch", true, func(g *ground) { g.m.Touch() }},
		{"Touch twice", true, func(g *ground) { g.m.Touch(); g.m.Touch() }},
		{"Touch of another Mover", false, func(g *ground) { New(g.c).Touch() }},
		{"one came", true, func(g *ground) { g.ok("Add", g.c.Add(8)) }},
		{"one went", true, func(g *ground) { g.ok("Leave", g.c.Leave(5)) }},
		{"one that is to go went", true, func(g *ground) { g.ok("Leave", g.c.Leave(6)) }},
		{"one is to go", true, func(g *ground) { g.ok("Drain", g.c.Drain(5)) }},
		{"one failed", true, func(g *ground) { g.fails(5) }},
		{"one that is to go failed", true, func(g *ground) { g.fails(6) }},
		{"one came, and went", true, func(g *ground) { g.ok("Add", g.c.Add(8)); g.ok("Leave", g.c.Leave(8)) }},
		{"one failed, and came", true, func(g *ground) { g.fails(6); g.ok("Add", g.c.Add(6)) }},
		{"one came that failed at once", true, func(g *ground) {
			outs := g.c.Outs()
			for after := 0; g.c.Outs() == outs; after++ { // till it can be formatted
				g.p.Arm(8, after, false)
				if e := g.c.Add(8); e != api.OK && e != api.ErrIO {
					g.t.Fatalf("Add: %v", e)
				}
			}
		}},
		{"errors", false, func(g *ground) {
			for _, e := range []api.Errno{g.c.Add(2), g.c.Add(anchor), g.c.Add(99), g.c.Add(0), g.c.Drain(6), g.c.Drain(9), g.c.Leave(9), g.c.Leave(-1)} {
				if e == api.OK {
					g.t.Errorf("it went well")
				}
			}
		}},
		{"one couldn't come", false, func(g *ground) {
			g.p.Arm(8, 0, false)
			if g.c.Add(8) != api.ErrIO {
				g.t.Errorf("it came")
			}
		}},
		{"one was asked", false, func(g *ground) {
			fetch.Get(g.c, "a", 0)
			g.c.Do(5, func(s *store.Store) { s.Read("a") })
		}},
		{"versions", false, func(g *ground) {
			for range 2*api.LeaseStep + 1 {
				g.c.Version()
			}
		}},
		{"put, and dropped", false, func(g *ground) { g.puts("b", 0); g.drops("b"); g.puts("c", 0) }},
		{"hidden", false, func(g *ground) { g.lays("0", "2:v1h") }},
		{"a Bound, and a Done", false, func(g *ground) { Bound(g.c); g.m.Done() }},
	} {
		g, key := newForgetful(t)
		g.what = x.what
		x.do(g)
		g.isForgotten(key, x.forgets)
		g.settles()
	}
}

// fails: a member's device fails, so it is out.
func (g *ground) fails(serial int) {
	g.t.Helper()
	g.p.Arm(serial, 0, false)
	if g.c.Do(serial, func(s *store.Store) { s.Put(record.Entry{Key: "x", Version: 1, Kind: record.Tomb}) }) || g.c.Stopped() {
		g.t.Fatalf("%s: Do of %d went well", g.what, serial)
	}
}

// events: each lets all be untried.
var events = map[string]func(g *ground){
	"Touch": func(g *ground) { g.m.Touch() },
	"Add":   func(g *ground) { g.ok("Add", g.c.Add(8)) },
	"Drain": func(g *ground) { g.ok("Drain", g.c.Drain(5)) },
	"Leave": func(g *ground) { g.ok("Leave", g.c.Leave(4)) },
	"out":   func(g *ground) { g.fails(4) },
	"two":   func(g *ground) { g.m.Touch(); g.fails(4) },
}

// It is forgotten at the beginning of a Step, once: what is tried by that one is
// known behind it.
func TestForgetsOnce(t *testing.T) {
	for what, do := range events {
		g, key := newForgetful(t)
		g.what = what
		do(g)
		g.isForgotten(key, true)
		g.lays(key, "3:t1")
		g.isForgotten(key, false)
	}
}

// A Step has a beginning, also if it does nothing; nothing is tried by that, nor
// forgotten twice.
func TestForgetsIdle(t *testing.T) {
	for what, do := range events {
		g, key := newForgetful(t)
		g.what = what
		g.ok("Leave", g.c.Leave(6)) // so that nothing is to do but with the key
		g.steps()
		g.lays(key, "3:t1")
		g.isForgotten(key, false)
		g.lays(key, "2:v1 3:v1")
		g.rests("P21.1")
		g.rests("P21.1")
		g.lays(key, "3:t1")
		g.isForgotten(key, false)
		g.lays(key, "2:v1 3:v1")
		if do(g); what == "Drain" {
			continue // it is to go
		}
		g.rests("P21.1")
		g.lays(key, "3:t1")
		g.isForgotten(key, true)
		g.rests("P21.1")
		g.lays(key, "3:t1")
		g.isForgotten(key, false)
	}
}

// By a Step's own leaving nothing is forgotten; by what comes ahead of it, or
// behind it, all is.
func TestForgetsNotByLeaving(t *testing.T) {
	for leavers := 1; leavers < 4; leavers++ {
		leaves := func(g *ground, key string) {
			g.lays(key, "3:v1") // it isn't short
			for range leavers {
				n := len(g.c.Members())
				if g.steps(); len(g.c.Members()) != n-1 {
					t.Fatalf("P21.1: %s: the members are %v", g.what, g.c.Members())
				}
			}
			g.lays(key, "3:t1")
		}
		drained := func(what string) (*ground, string) {
			g, key := newForgetful(t)
			g.what = fmt.Sprint(what, ", ", leavers, " leave")
			for n := 7; n < 9; n++ {
				g.ok("Add", g.c.Add(n))
				g.ok("Drain", g.c.Drain(n))
			}
			g.ok("Add", g.c.Add(9))
			g.isForgotten(key, true)
			g.lays(key, "3:t1")
			return g, key
		}
		g, key := drained("nothing")
		leaves(g, key)
		g.isForgotten(key, false)
		for what, do := range events {
			if what == "Add" {
				continue // 8 is there
			}
			g, key := drained(what + " ahead")
			do(g)
			leaves(g, key)
			g.isForgotten(key, true)
			g, key = drained(what + " behind")
			leaves(g, key)
			do(g)
			g.isForgotten(key, true)
		}
	}
}

// Members that are to go go one by one, the least first, when no key is short.
func TestLeaves(t *testing.T) {
	g := newGround(t, 2, 6)
	for _, n := range []int{7, 3, 5} {
		g.ok("Drain", g.c.Drain(n))
	}
	g.lays("a", "5:v1")
	g.lays("b", "3:v1o")
	changes := g.c.Changes()
	g.steps()
	g.members("P21.1", 2, 3, 4, 5, 6, 7)
	g.steps()
	g.members("P21.1", 2, 3, 4, 5, 6, 7)
	for _, left := range [][]int{{2, 4, 5, 6, 7}, {2, 4, 6, 7}, {2, 4, 6}} {
		epoch := g.c.Roster().Epoch
		g.steps()
		g.members("P21.1", left...)
		if g.c.Roster().Epoch != epoch+1 {
			t.Errorf("P21.1: a leaving takes %d epochs", g.c.Roster().Epoch-epoch)
		}
	}
	if g.c.Changes() != changes+3 || g.c.Outs() != 0 || g.c.Store(3) != nil {
		t.Errorf("P21.1: %d changes, %d outs", g.c.Changes()-changes, g.c.Outs())
	}
	g.isSettled()
	for _, n := range []int{3, 5, 7} { // the anchor says so, too
		g.ok("Add", g.c.Add(n))
	}
	g.answers("P21.3", "a", 0, textOf("a", 1), true)
	g.answers("P21.3", "b", over, "", false)
}

// A key that becomes short while members go comes ahead of them.
func TestKeysFirst(t *testing.T) {
	g := newGround(t, 2, 6)
	for _, n := range []int{2, 3, 4} {
		g.ok("Drain", g.c.Drain(n))
	}
	g.steps()
	g.members("P21.1", 3, 4, 5, 6, 7)
	g.lays("a", "5:v1")
	g.lays("b", "4:v1")
	g.steps()
	g.steps()
	g.members("P21.1", 3, 4, 5, 6, 7)
	g.steps()
	g.members("P21.1", 4, 5, 6, 7)
	g.settles()
	g.members("P21.1", 5, 6, 7)
	g.reads()
	g.answers("P21.3", "b", 0, textOf("b", 1), true)
}

// One is to go: keys are short by that. Where they belong they are copied to
// first; then it goes, and none is short by that.
func TestDrains(t *testing.T) {
	g := newGround(t, 2, 4)
	ours, others := keysOf(t, 3, 4, 2), keysOf(t, 2, 3, 5)
	for _, key := range append(slices.Clone(ours), others...) {
		g.puts(key, 0)
	}
	g.rests("P21.1")
	g.ok("Drain", g.c.Drain(4))
	for i := range ours {
		if n := Bound(g.c); n != 2*5+1 {
			t.Errorf("P21.2: Bound: %d", n)
		}
		g.steps()
		for j, key := range ours {
			if g.holds(g.topOf(key)[1], key) != (j <= i) {
				t.Errorf("P21.1: %d Steps: %q", i+1, g.all(key))
			}
		}
		g.members("P21.1", 2, 3, 4, 5)
	}
	g.steps()
	g.members("P21.1", 2, 3, 5)
	g.isSettled()
	g.reads()
	if n := len(fetch.Keys(g.c)); n != 5 {
		t.Errorf("P21.2: %d keys are left", n)
	}
}

// One leaves, by itself, or fails: what it had is short, but there.
func TestLeft(t *testing.T) {
	for what, goes := range map[string]func(g *ground){
		"Leave": func(g *ground) { g.ok("Leave", g.c.Leave(4)) },
		"out":   func(g *ground) { g.fails(4) },
	} {
		g := newGround(t, 2, 4)
		g.what = what
		ours, others := keysOf(t, 3, 2, 4), keysOf(t, 3, 5, 3)
		for _, key := range append(slices.Clone(ours), others...) {
			g.puts(key, 0)
		}
		goes(g)
		if n := g.settles(); n != 3 {
			t.Errorf("P21.1: %s: %d Steps", what, n)
		}
		g.reads()
		if n := len(fetch.Keys(g.c)); n != 6 {
			t.Errorf("P21.2: %s: %d keys are left", what, n)
		}
	}
}

// One came: what belongs to it now is short; those that it came ahead of keep it.
func TestCame(t *testing.T) {
	g := newGround(t, 2, 3)
	keys := append(keysOf(t, 3, 5, 2), keysOf(t, 3, 4, 2)...)
	for _, key := range keys {
		g.puts(key, over)
	}
	was := g.all(keys[0])
	g.ok("Add", g.c.Add(5))
	if n := g.settles(); n != 3 {
		t.Errorf("P21.1: %d Steps", n)
	}
	version := g.hits(0)[keys[0]]
	g.hold("P21.1", keys[0], fmt.Sprint(was, " 5:v", version, "o"))
	g.reads()
}

// All are to go: no key belongs to anybody, so none is short; nobody is left.
func TestAllLeave(t *testing.T) {
	g := newGround(t, 2, 3)
	g.lays("a", "2:v1")
	g.lays("b", "4:v1h")
	for n := 2; n < 5; n++ {
		g.ok("Drain", g.c.Drain(n))
	}
	if n := Bound(g.c); n != 2+3 {
		t.Errorf("P21.2: Bound: %d", n)
	}
	for _, left := range [][]int{{3, 4}, {4}, nil} {
		g.hold("P21.1", "b", "4:v1h")
		g.steps()
		g.members("P21.1", left...)
		if len(left) == 0 {
			break
		}
	}
	g.isSettled()
	if n := Bound(g.c); n != 0 {
		t.Errorf("P21.2: Bound of nobody: %d", n)
	}
	g.ok("Add", g.c.Add(2))
	g.isSettled()
}

func TestNothing(t *testing.T) {
	for _, members := range []int{1, 2, 8} {
		for copies := 1; copies < 5; copies++ {
			g := newGround(t, copies, members)
			g.rests("P21.1")
			g.m.Touch()
			g.rests("P21.1")
			for i := range 10 {
				g.puts(fmt.Sprint("key", i), i%2*over)
			}
			g.rests("P21.1")
			g.reads()
			for i := range 10 {
				g.drops(fmt.Sprint("key", i))
			}
			g.rests("P21.1")
			if n := Bound(g.c); n != 0 {
				t.Errorf("P21.2: Bound of nothing: %d", n)
			}
		}
	}
}

// A crew that is stopped: nothing is to do, whatever there is.
func TestStopped(t *testing.T) {
	g := newTried(t, 3, 3)
	g.ok("Drain", g.c.Drain(4))
	g.lays("b", "2:v1o")
	g.m.Touch()
	if Bound(g.c) != 5 || g.m.Done() {
		t.Fatalf("P21.1: Bound: %d", Bound(g.c))
	}
	g.p.Arm(anchor, 0, false)
	if e := g.c.Leave(2); e != api.ErrUnavailable || !g.c.Stopped() {
		t.Fatalf("Leave: %v", e)
	}
	g.rests("P21.1")
	g.m.Touch()
	g.rests("P21.1")
	g.m = New(g.c)
	g.rests("P21.1")
	if n := Bound(g.c); n != 5 {
		t.Errorf("P21.2: Bound: %d", n)
	}
}

// A crew is stopped while a member hasn't entered: it has no store.
func TestNoStore(t *testing.T) {
	stopped := 0
	for after := range 200 {
		p := flash.New()
		p.Add(anchor, 32)
		p.Add(2, 33)
		p.Add(3, 33)
		p.Halt(after)
		c, e := crew.Format(p, crew.Config{Anchor: anchor, Copies: 2, Per: 8}, []int{2, 3})
		if e != api.OK || !c.Stopped() {
			continue
		}
		stopped++
		m := New(c)
		m.Touch()
		if !m.Done() || m.Step() || Bound(c) != 0 {
			t.Errorf("P21.1: a stopped crew of %v: something is to do", c.Roster().All())
		}
	}
	if stopped < 3 {
		t.Errorf("P21.1: stopped were %d", stopped)
	}
}

func TestBound(t *testing.T) {
	g := newGround(t, 2, 8)
	bound := func(want int) {
		t.Helper()
		if n := Bound(g.c); n != want {
			t.Errorf("P21.2: Bound: %d, not %d", n, want)
		}
	}
	bound(0)
	for i := range 10 {
		g.puts(fmt.Sprint("key", i), i%2*over) // two copies count once, and over or not
		bound(2 * (i + 1))
	}
	g.lays("short", "2:v1")
	bound(22)
	g.lays("hidden", "2:v1h")
	g.lays("tomb", "2:t1 3:t2h")
	bound(22)
	g.lays("partly", "2:v1h 3:v1")
	bound(24)
	g.ok("Drain", g.c.Drain(9))
	bound(25)
	g.ok("Drain", g.c.Drain(2))
	bound(26)
	g.drops("key1")
	bound(24)
	for i := range 8 {
		g.c.Store(i + 2).Hide("key2")
	}
	bound(22)
	g.settles()
	bound(20)
}

// An entry that is over goes where it belongs, like others: nobody says what time
// it is.
func TestOver(t *testing.T) {
	g := newGround(t, 2, 2)
	g.puts("a", 1)
	g.puts("b", api.MaxTick)
	g.ok("Drain", g.c.Drain(3))
	g.ok("Add", g.c.Add(5))
	if n := g.settles(); n != 3 {
		t.Errorf("P21.1: %d Steps", n)
	}
	g.hold("P21.1", "a", "2:v2 5:v2")
	for _, n := range g.c.Members() {
		for key, want := range map[string]int{"a": 1, "b": api.MaxTick} {
			if x, is := g.c.Store(n).Get(key); !is || x.Expiry != want {
				t.Errorf("P21.1: %q on %d: %v", key, n, x)
			}
		}
	}
	for now, hits := range map[int]bool{0: true, 1: false, 2: false, api.MaxTick: false, -1: true} {
		if fetch.Hits(g.c, "a", now) != hits {
			t.Errorf("P21.3: at %d: %v", now, !hits)
		}
	}
}

// Where a device is too small for all that belongs to it, what makes room for
// others is given up: so there is an end to it.
func TestNoRoom(t *testing.T) {
	const small, many = 10, 12
	g := newGroundOf(t, 1, 1, 65, 8)
	g.p.Add(small, 17) // a segment, and one that is free: of 7 sectors, two for each key
	for i := range many {
		g.lays(fmt.Sprint("k", 10+i), "2:v3")
	}
	g.ok("Add", g.c.Add(small))
	g.ok("Drain", g.c.Drain(2))
	key := func(i int) string { return fmt.Sprint("k", 10+i) }
	for i := range 4 {
		g.steps()
		if !g.holds(small, key(i)) || !g.holds(2, key(i)) {
			t.Fatalf("P21.1: %q: %q", key(i), g.all(key(i)))
		}
	}
	for i := range 3 { // these made room for the fourth one
		g.hold("P21.1", key(i), "2:v3")
		g.steps()
		g.hold("P21.1", key(i), "2:v3h")
	}
	g.hold("P21.1", key(3), "2:v3 10:v3")
	n := 7 + g.settles()
	left := fetch.Keys(g.c)
	if n != 2*many-len(left)+1 {
		t.Errorf("P21.2: %d Steps, left are %q", n, left)
	}
	if l := []string{key(9), key(10), key(11)}; !slices.Equal(left, l) {
		t.Errorf("P21.2: left are %q, not %q", left, l)
	}
	g.members("P21.2", small)
	g.reads()
}

// With less room than there is to be kept on each of two, too.
func TestTooLittleRoom(t *testing.T) {
	g := newGroundOf(t, 2, 6, 25, 8)
	for i := range 40 {
		g.puts(fmt.Sprint("k", i), i%2*over)
	}
	for _, n := range []int{3, 5, 6, 7} {
		g.ok("Drain", g.c.Drain(n))
	}
	most, keys := Bound(g.c), len(fetch.Keys(g.c))
	n := g.settles()
	left := len(fetch.Keys(g.c))
	if n <= keys-left || n > most || left == 0 || left == keys {
		t.Errorf("P21.2: %d Steps of %d, of %d keys %d are left", n, most, keys, left)
	}
	g.members("P21.2", 2, 4)
	g.reads()
	if !mutate.Whole(g.c) {
		t.Errorf("P21.3: it isn't Whole")
	}
}

// The document's example: two copies on 2 and 3; 3 leaves, 4 is there.
func TestExample(t *testing.T) {
	key := keyOf(t, 2, 3, 4)
	g := newGround(t, 2, 3)
	if _, e := mutate.Put(g.c, key, "x", 0); e != api.OK {
		t.Fatalf("Put: %v", e)
	}
	g.hold("P21.1", key, "2:v1 3:v1")
	g.ok("Leave", g.c.Leave(3))
	g.steps()
	g.hold("P21.1", key, "2:v1 4:v1")
	g.rests("P21.1")
}
