package store

import (
	"fmt"
	"math"
	"math/rand"
	"slices"
	"strings"
	"testing"

	"bandolier/api"
	"bandolier/medium"
	"bandolier/record"
	"bandolier/seglog"
)

func TestExample(t *testing.T) {
	g := newGround(t, 4, 8)
	s := g.open()
	g.goesWell(func() { s.Put(record.Entry{Key: "a", Version: 1, Kind: record.Value, Value: "x"}) })
	want := Slot{Version: 1, Kind: record.Value, At: seglog.Loc{Seg: 0, At: 1, N: 1}}
	if x, is := s.Get("a"); !is || x != want {
		t.Errorf("P14.1: example 1: %v, %v", x, is)
	}
}

func TestLimit(t *testing.T) {
	for per, want := range map[int]int{8: 3, 9: 3, 10: 4, 11: 4, 63: 30, 64: 31} {
		if n := Limit(per); n != want {
			t.Errorf("P14.1: Limit(%d) is %d, not %d", per, n, want)
		}
	}
	for _, per := range []int{math.MinInt, -1, 0, 1, math.MaxInt} {
		if n := Limit(per); n != per/2-1 {
			t.Errorf("P1: Limit(%d) is %d", per, n)
		}
	}
}

// A device with nothing on it.
func TestNothing(t *testing.T) {
	for _, x := range []struct{ segs, per int }{{2, 8}, {3, 9}, {63, 64}, {500, 8}} {
		g := newGround(t, x.segs, x.per)
		g.what = fmt.Sprint("nothing is there, ", x)
		before := g.sectors()
		s := g.open()
		g.is(s, newModel(x.segs, x.per))
		g.goesWell(func() {
			for _, key := range []string{"", "a", strings.Repeat("a", 100)} {
				if e, is := s.Read(key); is || e != (record.Entry{}) {
					t.Errorf("P14.1: %s: Read(%q): %v, %v", g.what, key, e, is)
				}
				s.Hide(key)
			}
		})
		g.opensAs("P14.3", newModel(x.segs, x.per))
		if g.sectors() != before {
			t.Errorf("P14.1: %s: something was written", g.what)
		}
	}
}

// A key that is put again and again: its last entry counts, whatever the
// versions are, through all segments and round the circle.
func TestPutAgain(t *testing.T) {
	for _, segs := range []int{2, 3, 5} {
		g := newGround(t, segs, 8)
		g.what = fmt.Sprint("put again, ", segs)
		s, m := g.open(), newModel(segs, 8)
		for i := range 40 {
			g.puts(s, m, value("a", uint64(1+(i*7)%40), 1+i%3))
			if s.Len() != 1 {
				t.Fatalf("P14.1: %s: %d keys", g.what, s.Len())
			}
			g.opensAs("P14.3", m.opened())
			if i%4 == 3 {
				g.puts(s, m, tomb("a", uint64(i+1)))
			}
		}
		if segs > 2 && s.Evicted() != 0 || s.Moved() != 0 { // of two, the eldest one has the slot
			t.Errorf("P14.1: %s: %d evicted, %d moved: all but the last were no slots", g.what, s.Evicted(), s.Moved())
		}
	}
}

// What a slot has of values and tombs.
func TestSlots(t *testing.T) {
	g := newGround(t, 4, 16)
	g.what = "slots"
	s, m := g.open(), newModel(4, 16)
	key := strings.Repeat("k", api.MaxKey)
	l := []record.Entry{
		{Key: "a", Version: 1, Kind: record.Value, Expiry: 9, Value: "x"},
		{Key: "\x00", Version: 1<<63 - 1, Kind: record.Value, Expiry: api.MaxTick},
		{Key: key, Version: 5, Kind: record.Value, Value: strings.Repeat("\xff", api.MaxValue)},
		{Key: "a", Version: 7, Kind: record.Tomb},
		{Key: key, Version: 6, Kind: record.Tomb},
	}
	for _, e := range l {
		g.puts(s, m, e)
		slot, is := s.Get(e.Key)
		if slot.At.N != e.Sectors() || !is {
			t.Errorf("P14.1: the slot of %q: %v", e.Key, slot)
		}
		slot.At = seglog.Loc{}
		if slot != (Slot{Version: e.Version, Kind: e.Kind, Expiry: e.Expiry}) {
			t.Errorf("P14.1: the slot of %q: %v", e.Key, slot)
		}
		g.opensAs("P14.3", m.opened())
	}
	g.reads(s, m)
	if !slices.Equal(s.Keys(), []string{"\x00", "a", key}) {
		t.Errorf("P14.1: keys %q", s.Keys())
	}
}

// Put where the log has Room; where it has none, but segments are free; where
// the eldest one goes: just what is written then.
func TestWhereItGoes(t *testing.T) {
	g := newGround(t, 3, 8)
	g.what = "where it goes"
	s, m := g.open(), newModel(3, 8)
	put := func(e record.Entry, free, writes int, at seglog.Loc) {
		t.Helper()
		count := g.p.Count()
		g.puts(s, m, e)
		if n := g.p.Count() - count; n != writes {
			t.Errorf("P14.1: Put of %q takes %d operations, not %d", e.Key, n, writes)
		}
		if x, _ := s.Get(e.Key); x.At != at {
			t.Errorf("P14.1: %q is at %v, not %v", e.Key, x.At, at)
		}
		if n := g.log().Free(); n != free {
			t.Errorf("P14.1: behind %q %d are free, not %d", e.Key, n, free)
		}
	}
	const head, group = 2, 4 // written and flushed; payload, Commit, each flushed
	put(value("a", 1, 3), 2, head+group+2, seglog.Loc{Seg: 0, At: 1, N: 3})
	put(value("b", 2, 2), 2, group+1, seglog.Loc{Seg: 0, At: 5, N: 2})
	put(value("c", 3, 1), 1, head+group, seglog.Loc{Seg: 1, At: 1, N: 1})
	put(value("d", 4, 3), 1, group+2, seglog.Loc{Seg: 1, At: 3, N: 3})
	put(value("e", 5, 1), 1, 2*head+group, seglog.Loc{Seg: 2, At: 1, N: 1})
	if s.Evicted() != 2 || s.Moved() != 0 || !slices.Equal(s.Keys(), []string{"c", "d", "e"}) {
		t.Errorf("P14.1: %d evicted, %d moved, left %q", s.Evicted(), s.Moved(), s.Keys())
	}
	put(value("f", 6, 3), 1, group+2, seglog.Loc{Seg: 2, At: 3, N: 3})
	put(value("g", 7, 2), 1, 2*head+group+1, seglog.Loc{Seg: 0, At: 1, N: 2})
	if s.Evicted() != 4 || !slices.Equal(s.Keys(), []string{"e", "f", "g"}) {
		t.Errorf("P14.1: %d evicted, left %q", s.Evicted(), s.Keys())
	}
	g.opensAs("P14.3", m.opened())
}

// fills: entries of one sector, of these keys, and another key's till the last
// segment but one is full: the next Put lets the eldest segment go.
func (g *ground) fills(s *Store, m *model, l ...record.Entry) {
	g.t.Helper()
	g.puts(s, m, l...)
	for i := 0; len(m.live) < g.segs-1 || m.room(1); i++ {
		g.puts(s, m, value("fill", uint64(1000+i), 1))
	}
}

// Hot values are appended anew, up to a quarter of per, and not one more.
func TestQuarter(t *testing.T) {
	for _, per := range []int{8, 9, 11, 12, 15, 16, 19, 20, 24, 63, 64} {
		for _, n := range []int{1, 2, 3} {
			fit := per / 4 / (n + 1)
			if n > Limit(per) {
				continue
			}
			for _, hot := range []int{0, 1, fit - 1, fit, fit + 1} {
				if hot < 0 || (hot+1)*(n+1) >= per {
					continue
				}
				g := newGround(t, 3, per)
				g.what = fmt.Sprint("per ", per, ", ", hot, " hot ones of ", n)
				s, m := g.open(), newModel(3, per)
				var l []record.Entry
				for i := range hot {
					l = append(l, value(fmt.Sprint("k", i), uint64(i+1), n))
				}
				g.fills(s, m, append(l, value("cold", 9, 1))...)
				for i := range hot {
					g.heats(s, m, fmt.Sprint("k", hot-1-i)) // the order of reads is no matter
				}
				g.puts(s, m, value("new", 50, Limit(per)))
				if kept := min(hot, fit); s.Moved() != kept || s.Evicted() != hot+1-kept {
					t.Errorf("P14.1: %s: %d moved, %d evicted", g.what, s.Moved(), s.Evicted())
				}
				for i := range hot {
					if x, is := s.Get(fmt.Sprint("k", i)); is != (i < fit) || x.Hot || is && x.At.Seg != 2 {
						t.Errorf("P14.1: %s: k%d is %v, %v", g.what, i, x, is)
					}
				}
				g.opensAs("P14.3", m.opened())
			}
		}
	}
}

// The first one that doesn't fit ends it, though a later one would fit.
func TestFirstThatDoesntFit(t *testing.T) {
	g := newGround(t, 3, 20) // a quarter: 5
	g.what = "the first that doesn't fit"
	s, m := g.open(), newModel(3, 20)
	g.fills(s, m, value("z", 1, 2), value("y", 2, 2), value("x", 3, 1))
	g.heats(s, m, "x", "y", "z")
	g.puts(s, m, value("new", 9, 1))
	if _, is := s.Get("z"); !is || s.Moved() != 1 || s.Evicted() != 2 {
		t.Errorf("P14.1: %d moved, %d evicted, left %q", s.Moved(), s.Evicted(), s.Keys())
	}
	g = newGround(t, 3, 20)
	s, m = g.open(), newModel(3, 20)
	g.fills(s, m, value("z", 1, 2), value("y", 2, 1), value("x", 3, 1)) // 3 and 2 are 5
	g.heats(s, m, "x", "y", "z")
	g.puts(s, m, value("new", 9, 9))
	if s.Moved() != 2 || s.Evicted() != 1 || slices.Contains(s.Keys(), "x") {
		t.Errorf("P14.1: %d moved, %d evicted, left %q", s.Moved(), s.Evicted(), s.Keys())
	}
}

// By places, not by keys; who is passed over takes up nothing.
func TestPassedOver(t *testing.T) {
	g := newGround(t, 3, 16) // a quarter: 4
	g.what = "passed over"
	s, m := g.open(), newModel(3, 16)
	g.fills(s, m, value("h", 1, 1), tomb("t", 2), value("c", 3, 1), value("z", 4, 1), value("a", 5, 1))
	g.heats(s, m, "h", "t", "z", "a")
	g.goesWell(func() { s.Hide("h") })
	m.hide("h")
	g.is(s, m)
	g.puts(s, m, value("new", 9, 1))
	if !slices.Equal(s.Keys(), []string{"a", "fill", "new", "z"}) || s.Moved() != 2 || s.Evicted() != 3 {
		t.Errorf("P14.1: %d moved, %d evicted, left %q", s.Moved(), s.Evicted(), s.Keys())
	}
	z, _ := s.Get("z")
	a, _ := s.Get("a")
	if z.At != (seglog.Loc{Seg: 2, At: 1, N: 1}) || a.At != (seglog.Loc{Seg: 2, At: 3, N: 1}) {
		t.Errorf("P14.1: z is at %v, a at %v: not in the order of places", z.At, a.At)
	}
	g.opensAs("P14.3", m.opened())
}

// Hot ones whose slot is another one's by then: the elder entry isn't appended.
func TestSlotElsewhere(t *testing.T) {
	g := newGround(t, 3, 8)
	g.what = "a slot elsewhere"
	s, m := g.open(), newModel(3, 8)
	g.puts(s, m, value("a", 1, 1))
	g.heats(s, m, "a")
	g.puts(s, m, value("b", 2, 1), value("c", 3, 1), value("a", 4, 1)) // a is in segment 1, hot no more
	if x, _ := s.Get("a"); x.Hot || x.At.Seg != 1 {
		t.Errorf("P14.1: put again: %v", x)
	}
	g.heats(s, m, "a")
	g.puts(s, m, value("d", 5, 1), value("e", 6, 1), value("f", 7, 1))
	if x, is := s.Get("a"); !is || x.Version != 4 || x.At.Seg != 1 || !x.Hot || s.Moved() != 0 || s.Evicted() != 2 {
		t.Errorf("P14.1: %v, %v, %d moved, %d evicted", x, is, s.Moved(), s.Evicted())
	}
	g.opensAs("P14.3", m.opened())
}

// Within one segment, too: what was put over isn't there any more.
func TestPutOverInOne(t *testing.T) {
	g := newGround(t, 2, 16)
	g.what = "put over in one segment"
	s, m := g.open(), newModel(2, 16)
	g.puts(s, m, value("a", 1, 1), value("a", 2, 1), value("b", 3, 1), value("a", 4, 1))
	g.heats(s, m, "a", "b")
	g.fills(s, m)
	g.puts(s, m, value("new", 9, 1))
	a, _ := s.Get("a")
	b, _ := s.Get("b")
	if a.Version != 4 || b.At.At != 1 || a.At.At != 3 || s.Moved() != 2 || s.Evicted() != 1 {
		t.Errorf("P14.1: a %v, b %v, %d moved, %d evicted", a, b, s.Moved(), s.Evicted())
	}
	g.opensAs("P14.3", m.opened())
}

// The key that is put is itself hot, and in the eldest segment.
func TestPutOfHotKey(t *testing.T) {
	g := newGround(t, 3, 8)
	g.what = "the hot key is put"
	s, m := g.open(), newModel(3, 8)
	g.fills(s, m, value("a", 1, 1))
	g.heats(s, m, "a")
	g.puts(s, m, value("a", 2, 1))
	if x, is := s.Get("a"); !is || x.Version != 2 || x.Hot || s.Evicted() != 0 {
		t.Errorf("P14.1: %v, %v, %d evicted", x, is, s.Evicted())
	}
	g.opensAs("P14.3", m.opened())
}

// What was moved is hot no more: next time it goes, unless it is read again.
func TestMovedAgain(t *testing.T) {
	for _, again := range []bool{false, true} {
		g := newGround(t, 2, 8)
		g.what = "moved again"
		s, m := g.open(), newModel(2, 8)
		g.fills(s, m, value("a", 1, 1))
		for i := range 10 {
			if again || i == 0 {
				g.heats(s, m, "a")
			}
			g.puts(s, m, value("b", uint64(i+2), 3))
			if _, is := s.Get("a"); is != (again || i == 0) {
				t.Errorf("P14.1: read again %v: round %d: a is there: %v", again, i, is)
			}
		}
		if want := map[bool]int{false: 1, true: 10}[again]; s.Moved() != want {
			t.Errorf("P14.1: read again %v: %d moved", again, s.Moved())
		}
	}
}

// Get and Hide let nothing be hot; Read does, hidden or not. All of it is
// forgotten when it is put or opened anew.
func TestHotAndHidden(t *testing.T) {
	g := newGround(t, 4, 16)
	g.what = "hot and hidden"
	s, m := g.open(), newModel(4, 16)
	g.puts(s, m, value("a", 1, 1), tomb("b", 2))
	flags := func(s *Store, key string, hot, hidden bool) {
		t.Helper()
		if x, is := s.Get(key); !is || x.Hot != hot || x.Hidden != hidden {
			t.Errorf("P14.1: %q is %v, %v", key, x, is)
		}
	}
	flags(s, "a", false, false)
	flags(s, "a", false, false)
	before, count := g.sectors(), g.p.Count()
	s.Hide("a")
	s.Hide("none")
	s.Hide("")
	flags(s, "a", false, true)
	flags(s, "b", false, false)
	if g.p.Count() != count {
		t.Errorf("P14.1: Hide works on the device")
	}
	m.hide("a")
	g.is(s, m)
	g.heats(s, m, "a", "b", "b")
	flags(s, "a", true, true)
	flags(s, "b", true, false)
	if g.sectors() != before {
		t.Errorf("P14.1: Read, or Hide, writes")
	}
	u := g.open()
	flags(u, "a", false, false)
	flags(u, "b", false, false)
	g.opensAs("P14.3", m.opened())
	g.puts(s, m, value("a", 3, 1))
	flags(s, "a", false, false)
	flags(s, "b", true, false)
}

// A key that was evicted, and is put again, is neither hot nor hidden.
func TestEvictedIsForgotten(t *testing.T) {
	g := newGround(t, 2, 8)
	g.what = "evicted"
	s, m := g.open(), newModel(2, 8)
	g.fills(s, m, value("a", 1, 1))
	g.heats(s, m, "a")
	s.Hide("a")
	m.hide("a")
	g.puts(s, m, value("b", 2, 3))
	if _, is := s.Get("a"); is {
		t.Errorf("P14.1: a is there yet")
	}
	g.goesWell(func() {
		if e, is := s.Read("a"); is || e != (record.Entry{}) {
			t.Errorf("P14.1: a is read yet: %v", e)
		}
	})
	s.Hide("a")
	g.is(s, m)
	g.puts(s, m, value("a", 3, 1))
	if x, is := s.Get("a"); !is || x.Hot || x.Hidden {
		t.Errorf("P14.1: %v, %v", x, is)
	}
}

// lays: segments started, with these groups in each, by the log alone.
func (g *ground) lays(segs ...[]string) {
	g.t.Helper()
	l := g.log()
	g.goesWell(func() {
		for _, payloads := range segs {
			if !l.Start() {
				g.t.Fatalf("%s: no segment is free", g.what)
			}
			for _, x := range payloads {
				if l.Append(x) == (seglog.Loc{}) {
					g.t.Fatalf("%s: no Room", g.what)
				}
			}
		}
	})
}

// Open where no segment is free, but some is live.
func TestOpenFull(t *testing.T) {
	for _, segs := range []int{2, 3, 5} {
		g := newGround(t, segs, 8)
		g.what = fmt.Sprint("open where none is free, ", segs)
		var all [][]string
		for i := range segs {
			e := value(fmt.Sprint("k", i), uint64(i+1), 1)
			all = append(all, []string{e.Pack(), value("a", uint64(10+i), 1).Pack()})
		}
		g.lays(all...)
		if g.log().Free() != 0 {
			t.Fatalf("%s: some is free", g.what)
		}
		s := g.open()
		if g.log().Free() != 1 || g.p.Loose(device) != 0 {
			t.Errorf("P14.1: %s: %d are free, %d loose", g.what, g.log().Free(), g.p.Loose(device))
		}
		want := []string{"a"}
		for i := 1; i < segs; i++ {
			want = append(want, fmt.Sprint("k", i))
		}
		if !slices.Equal(s.Keys(), want) || s.Evicted() != 0 || s.Moved() != 0 {
			t.Errorf("P14.1: %s: %q, %d evicted, %d moved", g.what, s.Keys(), s.Evicted(), s.Moved())
		}
		if x, _ := s.Get("a"); x.Version != uint64(10+segs-1) || x.At.Seg != segs-1 {
			t.Errorf("P14.1: %s: a is %v", g.what, x)
		}
		if live := g.log().Live(); live[0] != 1 || len(live) != segs-1 {
			t.Errorf("P14.1: %s: live are %v", g.what, live)
		}
		g.p.Crash()
		if u := g.open(); !slices.Equal(u.Keys(), want) { // once is enough
			t.Errorf("P14.2: %s: opened twice: %q", g.what, u.Keys())
		}
	}
}

// The first live segment is the one of the least Number, not of the least place.
func TestOpenFullInCircle(t *testing.T) {
	g := newGround(t, 3, 8)
	g.what = "in a circle"
	g.lays([]string{value("a", 1, 1).Pack()}, []string{value("b", 2, 1).Pack()}, []string{value("c", 3, 1).Pack()})
	l := g.log()
	g.goesWell(func() { l.Reclaim(0); l.Start(); l.Append(value("d", 4, 1).Pack()) })
	s := g.open()
	if !slices.Equal(s.Keys(), []string{"c", "d"}) {
		t.Errorf("P14.1: %s: %q", g.what, s.Keys())
	}
	m := newModel(3, 8)
	m.live = []segment{{2, []piece{{1, 1, value("c", 3, 1), false}}}, {0, []piece{{1, 1, value("d", 4, 1), false}}}}
	g.is(s, m)
	g.puts(s, m, value("e", 5, 1), value("f", 6, 1), value("g", 7, 1))
	g.opensAs("P14.3", m.opened())
}

// Groups that are no entries are left out; those around them are found.
func TestNoEntries(t *testing.T) {
	good := value("a", 1, 1)
	bad := []string{
		strings.Repeat("\x00", 63),
		strings.Repeat("x", 126),
		good.Pack()[:62] + "\x01",
		good.Pack() + strings.Repeat("\x00", 63),
		"\x53" + good.Pack()[1:],
		good.Pack()[:40] + "!" + good.Pack()[41:],
		record.Entry{Key: "a", Version: 0, Kind: record.Value}.Pack(),
		record.Entry{Key: "a", Version: 9, Kind: 3}.Pack(),
		record.Entry{Version: 9, Kind: record.Value}.Pack(),
		record.Entry{Key: strings.Repeat("a", 25), Version: 9, Kind: record.Value}.Pack(),
		record.Entry{Key: "a", Version: 9, Kind: record.Tomb, Expiry: 1}.Pack(),
	}
	for i, x := range bad {
		g := newGround(t, 3, 16)
		g.what = fmt.Sprint("no entry, ", i)
		g.lays([]string{x, good.Pack(), x, value("b", 2, 1).Pack(), x})
		n := len(x) / 63
		m := newModel(3, 16)
		m.live = []segment{{0, []piece{
			{1, n, record.Entry{}, true}, {2 + n, 1, good, false}, {4 + n, n, record.Entry{}, true},
			{5 + 2*n, 1, value("b", 2, 1), false}, {7 + 2*n, n, record.Entry{}, true},
		}}}
		s := g.open()
		g.is(s, m)
		g.heats(s, m, "a", "b")
		for j := range 12 { // they go with their segment
			g.puts(s, m, value(fmt.Sprint("k", j%5), uint64(j+3), 1+j%3))
		}
		g.opensAs("P14.3", m.opened())
	}
}

// Groups of another cache, or joining, are none of the store's.
func TestOthers(t *testing.T) {
	g := newGround(t, 3, 8)
	g.what = "others"
	s, m := g.open(), newModel(3, 8)
	g.puts(s, m, value("a", 1, 1))
	g.goesWell(func() {
		for _, x := range [][2]uint64{{cache, join + 1}, {cache + 1, join}, {0, 0}, {math.MaxUint64, math.MaxUint64}} {
			if u := Open(g.medium(), x[0], x[1], 3, 8); u.Len() != 0 {
				t.Errorf("P14.1: of %v: %q", x, u.Keys())
			}
		}
	})
	g.opensAs("P14.3", m.opened())
}

// Entries that may not be, or have more than Limit sectors, are left out.
func TestPutWrong(t *testing.T) {
	g := newGround(t, 3, 8)
	g.what = "wrong entries"
	s, m := g.open(), newModel(3, 8)
	wrong := []record.Entry{
		{}, {Key: "a", Version: 1}, {Key: "a", Kind: record.Value}, {Version: 1, Kind: record.Value},
		{Key: "a", Version: 1, Kind: 3}, {Key: "a", Version: 1, Kind: -1}, {Key: "a", Version: 1, Kind: record.Tomb, Value: "x"},
		{Key: "a", Version: 1, Kind: record.Value, Expiry: -1}, {Key: "a", Version: 1, Kind: record.Value, Expiry: api.MaxTick + 1},
		{Key: strings.Repeat("a", 25), Version: 1, Kind: record.Value}, value("a", 1, 4), value("a", 1, 5),
		{Key: "a", Version: 1, Kind: record.Value, Value: strings.Repeat("v", 100000)},
	}
	for round := range 2 {
		before := g.sectors()
		for _, e := range wrong {
			g.goesWell(func() { s.Put(e) })
			g.is(s, m)
		}
		if g.sectors() != before || g.p.Loose(device) != 0 {
			t.Errorf("P1: round %d: a wrong entry changed something", round)
		}
		g.puts(s, m, value("a", 1, 3), value("b", 2, 2))
	}
}

// The greatest entries, of each Per: Limit is enough of it.
func TestGreatest(t *testing.T) {
	for per := 8; per <= 64; per++ {
		g := newGround(t, 2, per)
		g.what = fmt.Sprint("the greatest, per ", per)
		s, m := g.open(), newModel(2, per)
		n := min(Limit(per), record.Need(strings.Repeat("k", api.MaxKey), strings.Repeat("v", api.MaxValue)))
		for i := range 30 {
			g.puts(s, m, value(fmt.Sprint("k", i%7), uint64(i+1), 1+i%n), value(fmt.Sprint("l", i%3), uint64(i+1), n))
			g.heats(s, m, s.Keys()...)
		}
		g.opensAs("P14.3", m.opened())
	}
}

// Segs and Per that may not be, and a device that has less sectors, break
// Open off: nothing is written.
func TestOpenWrong(t *testing.T) {
	g := newGround(t, 3, 8)
	s, m := g.open(), newModel(3, 8)
	g.puts(s, m, value("a", 1, 1))
	before := g.sectors()
	for _, x := range [][2]int{
		{math.MinInt, 8}, {-1, 8}, {0, 8}, {1, 8}, {1001, 8}, {math.MaxInt, 8}, {3, math.MinInt}, {3, -8},
		{3, 0}, {3, 7}, {3, 65}, {3, math.MaxInt}, {math.MaxInt, math.MaxInt}, {5, 8}, {1000, 64}, {4, 9},
	} {
		b, is := medium.Guard(func() { Open(g.medium(), cache, join, x[0], x[1]) })
		if !is || b != (medium.Broken{Serial: device, Err: api.ErrRange}) {
			t.Errorf("P1: Open of %d segments of %d: %v, %v", x[0], x[1], b, is)
		}
	}
	if g.sectors() != before {
		t.Errorf("P1: a wrong Open changed something")
	}
	g.opensAs("P14.3", m.opened())
}

// Keys answers new memory.
func TestMemory(t *testing.T) {
	g := newGround(t, 3, 8)
	s, m := g.open(), newModel(3, 8)
	g.puts(s, m, value("a", 1, 1), value("b", 2, 1))
	keys := s.Keys()
	keys[0], keys[1] = "x", "y"
	g.is(s, m)
}

// Any calls, held against a plain model.
func TestRandomCalls(t *testing.T) {
	r := rand.New(rand.NewSource(14))
	for range 250 {
		segs, per := 2+r.Intn(4), 8+r.Intn(20)
		g := newGround(t, segs, per)
		s, m := g.open(), newModel(segs, per)
		names := 2 + r.Intn(12)
		for step := range 80 {
			g.what = fmt.Sprint(segs, " segments of ", per, ", step ", step)
			s, m = randomCall(g, r, s, m, step, string(rune('a'+r.Intn(names))))
		}
		g.opensAs("P14.3", m.opened())
	}
}

// randomEntry: one of that key that may be put.
func randomEntry(r *rand.Rand, per, step int, key string) record.Entry {
	if r.Intn(6) == 0 {
		return tomb(key, uint64(step+1))
	}
	return value(key, uint64(step+1), 1+r.Intn(min(Limit(per), 6)))
}

func randomCall(g *ground, r *rand.Rand, s *Store, m *model, step int, key string) (*Store, *model) {
	g.t.Helper()
	switch r.Intn(12) {
	case 0:
		s.Hide(key)
		m.hide(key)
	case 1, 2, 3, 4:
		g.heats(s, m, key)
	case 5:
		g.opensAs("P14.3", m.opened())
		if r.Intn(3) == 0 {
			g.p.Crash(r.Intn(2))
			return g.open(), m.opened()
		}
	default:
		g.puts(s, m, randomEntry(r, m.per, step, key))
	}
	g.is(s, m)
	return s, m
}
