package gate

import (
	"fmt"
	"maps"
	"math"
	"strings"
	"testing"

	"bandolier/api"
	"bandolier/flash"
	"bandolier/heads"
	"bandolier/medium"
	"bandolier/record"
	"bandolier/roster"
	"bandolier/store"
)

func TestStandings(t *testing.T) {
	for i, s := range []Standing{Away, Broken, Foreign, Stale, Member} {
		if int(s) != i {
			t.Errorf("P16.1: standing %d is %d", i, s)
		}
	}
}

func TestSegments(t *testing.T) {
	for _, c := range []struct{ size, per, want int }{
		{33, 8, 4}, // the example
		{32, 8, 3}, {34, 8, 4}, {40, 8, 4}, {41, 8, 5},
		{math.MinInt, 8, 0}, {-1, 8, 0}, {0, 8, 0}, {1, 8, 0}, {2, 8, 0},
		{8, 8, 0}, {9, 8, 0}, {16, 8, 0}, {17, 8, 2}, {18, 8, 2}, {24, 8, 2}, {25, 8, 3},
		{128, 64, 0}, {129, 64, 2}, {4096, 8, 511}, {4096, 64, 63}, {4096, 63, 65},
		{7993, 8, 999}, {8000, 8, 999}, {8001, 8, 1000}, {8008, 8, 1000}, {8009, 8, 1000}, {math.MaxInt, 8, 1000},
		{64000, 64, 999}, {64001, 64, 1000}, {64065, 64, 1000},
		{33, 0, 0}, {33, -1, 0}, {33, -8, 0}, {33, math.MinInt, 0}, {33, math.MaxInt, 0},
		{0, 0, 0}, {math.MinInt, math.MinInt, 0}, {math.MinInt, 1, 0}, {math.MaxInt, math.MaxInt, 0},
		{2, 1, 0}, {3, 1, 2}, {1001, 1, 1000}, {1002, 1, 1000}, {math.MaxInt, 1, 1000},
	} {
		if n := Segments(c.size, c.per); n != c.want {
			t.Errorf("P16.1: Segments(%d, %d) is %d, not %d", c.size, c.per, n, c.want)
		}
	}
	for per := 8; per <= 64; per++ {
		for size := range 5000 {
			n := 0
			for end := 1 + per; end <= size && n < 1000; end += per {
				n++
			}
			if n < 2 {
				n = 0
			}
			if got := Segments(size, per); got != n {
				t.Fatalf("P16.1: Segments(%d, %d) is %d, not %d", size, per, got, n)
			}
		}
	}
}

// Its super, and nothing else, is written, and flushed.
func TestFormat(t *testing.T) {
	for _, x := range []struct {
		size, per, segs int
		cache, join     uint64
		state           int
	}{
		{17, 8, 2, cache, 1, roster.Active},
		{33, 8, 4, cache, 7, roster.Draining},
		{40, 9, 4, math.MaxUint64, math.MaxUint64, roster.Active},
		{129, 64, 2, 1, 1, roster.Active},
		{4096, 8, 511, 1<<63 - 1, 1 << 40, roster.Active},
		{33, 8, 4, 0, 0, roster.Active},
	} {
		g := newGround(t, x.size)
		g.what = fmt.Sprint(x)
		g.p.Add(6, 33)
		for i := range x.size {
			g.writes(i, filled(byte(i)))
		}
		was := g.sectors()
		g.formats(x.cache, roster.Member{Serial: device, Join: x.join, State: x.state}, x.per)
		want := heads.Super{Cache: x.cache, Serial: device, Join: x.join, Segs: x.segs, Per: x.per}.Pack() + was[api.Sector:]
		if g.p.Loose(device) != 0 || g.p.Loose(6) != 0 {
			t.Errorf("P16.1: %s: Format left %d sectors loose", g.what, g.p.Loose(device))
		}
		if g.sectors() != want {
			t.Errorf("P16.1: %s: Format wrote something else than the super", g.what)
		}
		g.p.Crash()
		if g.sectors() != want {
			t.Errorf("P16.1: %s: Format didn't flush", g.what)
		}
	}
}

// Groups of another cache, or Join, stay: they aren't found, as it is.
func TestFormatLeavesOthers(t *testing.T) {
	for _, to := range []roster.Roster{of(cache, 2), of(cache+1, 1), of(cache+1, 2)} {
		g := newGround(t, 33)
		g.what = fmt.Sprint(to)
		g.formats(cache, member(1), 8)
		g.puts(g.enters(of(cache, 1), 8), map[string]string{}, "a", "b", "c", "d")
		was := g.sectors()
		g.formats(to.Cache, to.Members[0], 8)
		if g.sectors()[api.Sector:] != was[api.Sector:] {
			t.Errorf("P16.1: %s: Format wrote something else than the super", g.what)
		}
		g.holds("P16.3", to, 8, nil)
	}
}

// The super has the member's serial, whichever device it is written to.
func TestFormatAsAnother(t *testing.T) {
	g := newGround(t, 33)
	g.formats(cache, roster.Member{Serial: 6, Join: 1, State: roster.Active}, 8)
	x, e := heads.ToSuper(g.sectors()[:api.Sector])
	if want := (heads.Super{Cache: cache, Serial: 6, Join: 1, Segs: 4, Per: 8}); x != want || e != api.OK {
		t.Errorf("P16.1: the super is %v, %v", x, e)
	}
	g.entersNot("P16.1", of(cache, 1), 8, Stale)
}

// The super is of the member that is told, and of no other one.
func TestFormatAndJudge(t *testing.T) {
	for _, per := range []int{8, 9, 16, 63, 64} {
		for _, size := range []int{1 + 2*per, 2 * (1 + per), 4096} {
			for _, join := range []uint64{1, 2, 1 << 62, math.MaxUint64} {
				for _, c := range []uint64{1, cache, math.MaxUint64} {
					g := newGround(t, size)
					g.what = fmt.Sprint("cache ", c, ", join ", join, ", per ", per, ", size ", size)
					g.isJudged("P16.1", of(c, join), per, Stale)
					g.formats(c, member(join), per)
					g.isJudged("P16.1", of(c, join), per, Member)
					g.p.Crash()
					g.isJudged("P16.1", of(c, join), per, Member)
					g.p.Detach(device)
					g.p.Attach(device)
					g.isJudged("P16.1", of(c, join), per, Member)
					g.isJudged("P16.1", of(c, join-1), per, Stale)
					g.isJudged("P16.1", of(c-1, join), per, Stale)
					g.isJudged("P16.1", of(c, join), per+1, Stale)
					g.isJudged("P16.1", of(c, join), per-1, Stale)
				}
			}
		}
	}
}

// What a member's state is, and who else is one, is nothing to a device.
func TestOtherMembers(t *testing.T) {
	r := roster.Roster{Cache: cache}
	for _, serial := range []int{1000, 1, device, 4, 6} {
		r, _ = r.Add(serial)
	}
	g := newGround(t, 33)
	x, _ := r.Find(device)
	g.formats(cache, x, 8)
	g.isJudged("P16.1", r, 8, Member)
	r, _ = r.Drain(device)
	r, _ = r.Remove(4)
	r = r.Extend()
	g.isJudged("P16.1", r, 8, Member)
	g.holds("P16.1", r, 8, nil)
	for _, serial := range []int{1000, 1, 6} {
		if s := Judge(g.p, r, serial, 8); s != Away {
			t.Errorf("P16.1: member %d isn't there, but is %d", serial, s)
		}
		g.p.Add(serial, 33)
		if s := Judge(g.p, r, serial, 8); s != Stale {
			t.Errorf("P16.1: member %d wasn't formatted, but is %d", serial, s)
		}
	}
}

// A first sector that is no super of that cache, device, Join, per and size.
func TestStale(t *testing.T) {
	right := heads.Super{Cache: cache, Serial: device, Join: 3, Segs: 4, Per: 8}
	turned := []byte(right.Pack())
	turned[63] ^= 1
	all := map[string]string{
		"noughts":      filled(0),
		"ones":         filled(0xff),
		"text":         filled('S'),
		"sum":          string(turned),
		"a head":       heads.Head{Cache: cache, Join: 3, Number: 1}.Pack(),
		"a commit":     heads.Commit{Cache: cache, Join: 3, Number: 1, At: 1, Count: 1}.Pack(),
		"a page":       heads.Page{Seq: 3, Total: 1, Data: "a"}.Pack(),
		"its cache":    heads.Super{Cache: cache + 1, Serial: device, Join: 3, Segs: 4, Per: 8}.Pack(),
		"its serial":   heads.Super{Cache: cache, Serial: 6, Join: 3, Segs: 4, Per: 8}.Pack(),
		"its join":     heads.Super{Cache: cache, Serial: device, Join: 4, Segs: 4, Per: 8}.Pack(),
		"an elder one": heads.Super{Cache: cache, Serial: device, Join: 2, Segs: 4, Per: 8}.Pack(),
		"its segments": heads.Super{Cache: cache, Serial: device, Join: 3, Segs: 3, Per: 8}.Pack(),
		"its per":      heads.Super{Cache: cache, Serial: device, Join: 3, Segs: 4, Per: 9}.Pack(),
	}
	g := newGround(t, 33)
	for what, sector := range all {
		g.what = what
		g.writes(0, right.Pack())
		g.isJudged("P16.1", of(cache, 3), 8, Member)
		g.writes(0, sector)
		g.entersNot("P16.1", of(cache, 3), 8, Stale)
		g.formats(cache, member(3), 8)
		g.isJudged("P16.1", of(cache, 3), 8, Member)
	}
}

func TestAway(t *testing.T) {
	g := newGround(t, 33)
	g.formats(cache, member(1), 8)
	for _, serial := range []int{math.MinInt, -device, -1, 0, 4, 6, 1000, 1001, math.MaxInt} {
		for _, r := range []roster.Roster{{}, of(cache, 1), {Cache: cache, Members: []roster.Member{{Serial: serial, Join: 1, State: 1}}}} {
			if s, is := Enter(g.p, r, serial, 8); Judge(g.p, r, serial, 8) != Away || s != nil || is != Away {
				t.Errorf("P16.1: there is no device %d: %v, %d", serial, s, is)
			}
		}
	}
	g.p.Detach(device)
	g.what = "detached"
	g.entersNot("P16.1", of(cache, 1), 8, Away)
	g.entersNot("P16.1", roster.Roster{Cache: cache}, 8, Away) // though it is no member, either
	g.p.Halt(0)
	g.entersNot("P16.1", of(cache, 1), 8, Away) // nor could it be read
	g.p.Crash()
	g.entersNot("P16.1", of(cache, 1), 8, Away)
	if s := Judge(flash.New(), of(cache, 1), device, 8); s != Away {
		t.Errorf("P16.1: of an empty pool: %d", s)
	}
	g.p.Attach(device)
	g.isJudged("P16.1", of(cache, 1), 8, Member)
}

// Who is no member is Foreign, whatever its super says: it isn't read.
func TestForeign(t *testing.T) {
	g := newGround(t, 33)
	g.formats(cache, member(1), 8)
	others := roster.Roster{Cache: cache, Joins: 9, Members: []roster.Member{{Serial: 4, Join: 1, State: 1}, {Serial: 6, Join: 9, State: 1}}}
	for _, r := range []roster.Roster{{}, {Cache: cache}, {Cache: cache, Joins: 1}, others} {
		g.what = fmt.Sprint(r)
		g.entersNot("P16.1", r, 8, Foreign)
		g.p.Arm(device, 0, false)
		count := g.p.Count()
		g.entersNot("P16.1", r, 8, Foreign)
		if g.p.Count() != count {
			t.Errorf("P16.1: who is Foreign is read")
		}
		g.isJudged("P16.1", of(cache, 1), 8, Broken)
		g.p.Halt(0)
		g.entersNot("P16.1", r, 8, Foreign)
		g.p.Crash()
	}
}

// What can't be read is Broken, whatever its super would say.
func TestBroken(t *testing.T) {
	for _, r := range []roster.Roster{of(cache, 1), of(cache, 2)} {
		for _, per := range []int{8, 9} {
			for _, done := range []bool{false, true} {
				g := newGround(t, 33)
				g.formats(cache, member(1), 8)
				g.what = fmt.Sprint("broken, ", r, per, done)
				g.p.Arm(device, 0, done)
				g.isJudged("P16.1", r, per, Broken)
				g.p.Arm(device, 0, done)
				if s, is := Enter(g.p, r, device, per); s != nil || is != Broken {
					t.Errorf("P16.1: %s: Enter: %v, %d", g.what, s, is)
				}
				g.p.Halt(0)
				g.entersNot("P16.1", r, per, Broken)
				g.p.Crash()
				g.p.Halt(0)
				medium.Guard(g.medium().Flush)
				g.entersNot("P16.1", r, per, Broken)
				g.p.Crash()
				g.isJudged("P16.1", of(cache, 1), 8, Member)
			}
		}
	}
}

// Judge reads one sector at most, and changes nothing.
func TestJudgeChangesNothing(t *testing.T) {
	g := newGround(t, 33)
	g.formats(cache, member(1), 8)
	m := g.medium()
	g.goesWell(func() { m.Write(3, "loose") })
	was := g.sectors()
	for _, r := range []roster.Roster{of(cache, 1), of(cache, 2), {Cache: cache}} {
		count := g.p.Count()
		Judge(g.p, r, device, 8)
		if g.p.Count() > count+1 || g.p.Loose(device) != 1 {
			t.Errorf("P16.1: Judge takes %d operations, %d sectors are loose", g.p.Count()-count, g.p.Loose(device))
		}
		if g.sectors() != was {
			t.Errorf("P16.1: Judge wrote something")
		}
	}
	r := of(cache, 1)
	Enter(g.p, r, device, 8)
	if len(r.Members) != 1 || r.Members[0] != member(1) || r.Cache != cache {
		t.Errorf("P16.1: the roster is %v", r)
	}
}

// A member's store is what it was, opened.
func TestEnter(t *testing.T) {
	for _, x := range []struct{ size, per int }{{25, 8}, {33, 8}, {70, 16}, {200, 64}} {
		g := newGround(t, x.size)
		g.what = fmt.Sprint(x)
		g.formats(cache, member(3), x.per)
		r, has := of(cache, 3), map[string]string{}
		g.holds("P16.1", r, x.per, has)
		g.puts(g.enters(r, x.per), has, "a", "b", "c")
		g.holds("P16.1", r, x.per, has)
		g.p.Crash()
		g.puts(g.enters(r, x.per), has, "b")
		g.p.Detach(device)
		g.p.Attach(device)
		g.holds("P16.1", r, x.per, has)

		var s *store.Store
		m := g.medium()
		g.goesWell(func() { s = store.Open(m, cache, 3, Segments(x.size, x.per), x.per) })
		if got := g.held(s); !maps.Equal(got, has) {
			t.Errorf("P16.1: %s: of that cache, Join and geometry the store has %v, not %v", g.what, got, has)
		}
	}
}

// All segments are the store's, and no more.
func TestEnterHasAllSegments(t *testing.T) {
	for _, x := range []struct{ size, per, segs int }{{33, 8, 4}, {32, 8, 3}, {4096, 64, 63}} {
		g := newGround(t, x.size)
		g.what = fmt.Sprint(x)
		g.formats(cache, member(1), x.per)
		s := g.enters(of(cache, 1), x.per)
		last := 0
		for i := range 2 * x.segs {
			e := record.Entry{Key: fmt.Sprint(i), Version: uint64(i + 1), Kind: record.Value, Value: strings.Repeat("v", 120)}
			for e.Sectors() < store.Limit(x.per) && len(e.Value) < api.MaxValue {
				e.Value += "v"
			}
			for range x.per / (1 + e.Sectors()) {
				g.goesWell(func() { s.Put(e) })
			}
			slot, _ := s.Get(e.Key)
			last = max(last, slot.At.Seg)
		}
		if last != x.segs-1 {
			t.Errorf("P16.1: %s: the last segment is %d", g.what, last)
		}
	}
}

// Where the opening fails it is Broken, and no store.
func TestEnterBroken(t *testing.T) {
	for _, full := range []bool{false, true} {
		failed := 0
		for after := 0; after == failed; after++ {
			for _, b := range breaches(after) {
				g := newGround(t, 33)
				g.formats(cache, member(1), 8)
				has := map[string]string{}
				g.puts(g.enters(of(cache, 1), 8), has, "a", "b", "c", "d") // three to a segment
				g.what = fmt.Sprint("full ", full, ", Enter broken off ", b)
				if full { // a head in each segment: Enter reclaims one, and writes
					g.writes(17, heads.Head{Cache: cache, Join: 1, Number: 8}.Pack())
					g.writes(25, heads.Head{Cache: cache, Join: 1, Number: 9}.Pack())
					has = map[string]string{"d": has["d"]}
				}
				g.strikes(b)
				s, is := Enter(g.p, of(cache, 1), device, 8)
				g.calms()
				if broken := is == Broken && s == nil; !broken && (is != Member || s == nil) {
					t.Fatalf("P16.1: %s: %v, it is %d", g.what, s, is)
				} else if broken {
					failed = after + 1
				}
				g.p.Crash()
				g.holds("P16.1", of(cache, 1), 8, has)
			}
		}
		if failed < 6 {
			t.Errorf("P16.1: Enter was broken off at %d operations", failed)
		}
	}
}

// P1: a Format of what may not be breaks off, and changes nothing; nor is that
// a member.
func TestEveryCallEnds(t *testing.T) {
	numbers := []int{math.MinInt, -1, 0, 1, 7, 8, 64, 65, 264, 1000, 1001, math.MaxInt}
	for _, size := range []int{1, 2, 16, 17, 4096} {
		for _, per := range numbers {
			for _, serial := range append(numbers, device, 1<<16+device) {
				triesToFormat(t, size, per, serial)
			}
		}
	}
	for _, serials := range [][]int{{6, 5, 4}, {5, 5, 5}, {-1, 1 << 62, 5}} {
		var r roster.Roster
		for _, serial := range serials {
			r.Members = append(r.Members, roster.Member{Serial: serial})
		}
		g := newGround(t, 33)
		if s, is := Enter(g.p, r, device, 8); s != nil || is != Foreign && is != Stale {
			t.Errorf("P1: of a roster that may not be: %v, %d", s, is)
		}
	}
}

func triesToFormat(t *testing.T, size, per, serial int) {
	t.Helper()
	g := newGround(t, size)
	g.what = fmt.Sprint("size ", size, ", per ", per, ", serial ", serial)
	was := g.sectors()
	x := roster.Member{Serial: serial, Join: 1, State: roster.Active}
	may := Segments(size, per) > 0 && per >= 8 && per <= 64 && serial >= 1 && serial <= 1000
	m := g.medium()
	if _, broken := medium.Guard(func() { Format(m, cache, x, per) }); broken == may {
		t.Errorf("P1: %s: Format is broken off: %v", g.what, broken)
	}
	if !may && (g.sectors() != was || g.p.Loose(device) != 0) {
		t.Errorf("P1: %s: something was written", g.what)
	}
	r := roster.Roster{Cache: cache, Joins: 1, Members: []roster.Member{x}}
	is := Judge(g.p, r, device, per)
	s, entered := Enter(g.p, r, device, per)
	if member := may && serial == device; is != entered || (is == Member) != member || (s != nil) != member {
		t.Errorf("P1: %s: it is %d, %d, store %v", g.what, is, entered, s != nil)
	}
}
