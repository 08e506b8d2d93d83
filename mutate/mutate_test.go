package mutate

import (
	"fmt"
	"math"
	"slices"
	"strings"
	"testing"

	"bandolier/api"
	"bandolier/crew"
	"bandolier/flash"
	"bandolier/rank"
	"bandolier/record"
)

func TestOutcomes(t *testing.T) {
	if Stored != 1 || Dropped != 2 {
		t.Errorf("P18.1: Stored is %d, Dropped %d", Stored, Dropped)
	}
}

// On fewer devices than Copies, on as many, on more; and once more.
func TestPut(t *testing.T) {
	for copies := 1; copies <= 4; copies++ {
		for members := 1; members <= 6; members++ {
			g := newGround(t, copies, members)
			for i, key := range []string{"a", "b", strings.Repeat("k", api.MaxKey), "\x00"} {
				g.what = fmt.Sprintf("%d copies on %d devices, %q", copies, members, key)
				g.puts(key, "x", 9, Stored)
				g.isSpread(key, uint64(3*i+1), "x", 9)
				if top := rank.Top(key, many(2, members), copies); !slices.Equal(g.top(key), top) || len(top) != min(copies, members) {
					t.Errorf("P18.1: %s: the top is %v", g.what, g.top(key))
				}
				for _, n := range g.c.Members() {
					if !slices.Contains(g.top(key), n) && g.has(n, key) != "" {
						t.Errorf("P18.1: %s: %d has a slot", g.what, n)
					}
				}
				g.puts(key, "", 0, Stored)
				g.isSpread(key, uint64(3*i+2), "", 0)
				g.puts(key, "yy", api.MaxTick, Stored)
				g.isSpread(key, uint64(3*i+3), "yy", api.MaxTick)
			}
			if v := g.next(); v != 13 {
				t.Errorf("P18.1: %s: behind 12 Puts the version is %d", g.what, v)
			}
		}
	}
}

// Others hold the key, too: those that aren't of the top any more get a tomb,
// hidden or not.
func TestPutOverOthers(t *testing.T) {
	key := keyOf(t, many(2, 6), 2, 4, 7) // of 2 to 4 it belongs to all
	g := newGround(t, 3, 3)
	g.puts(key, "x", 0, Stored)
	g.hold("P18.1", key, "2v1 3v1 4v1")
	for n := 5; n < 8; n++ {
		g.goes(g.c.Add(n))
	}
	g.c.Store(4).Hide(key)
	g.hold("P18.1", key, "2v1 3v1 4v1h 5 6 7")
	g.puts(key, "y", 5, Stored)
	g.hold("P18.1", key, "2v2 3t2 4v2 5 6 7v2")
	g.isSpread(key, 2, "y", 5)
	g.puts(key, "z", 0, Stored)
	g.hold("P18.1", key, "2v3 3t2 4v3 5 6 7v3") // a tomb gets nothing

	g.goes(g.c.Leave(4))
	g.c.Store(2).Hide(key)
	g.goes(g.c.Drain(2)) // a member that is to go isn't of the top, but holds it
	g.puts(key, "w", 0, Stored)
	if s := g.has(2, key); s != "t4" {
		t.Errorf("P18.1: of the one that is to go there is %q", s)
	}
	g.isSpread(key, 4, "w", 0)
}

// An elder value, and one of whatever other version, is put over in the top.
func TestPutOverAny(t *testing.T) {
	g := newGround(t, 2, 2)
	for i, kinds := range [][2]int{{record.Value, record.Tomb}, {record.Tomb, record.Tomb}, {record.Value, record.Value}} {
		key := fmt.Sprint("k", i)
		for j, kind := range kinds {
			g.lays(2+j, key, uint64(900+j), kind)
		}
		g.puts(key, "x", 0, Stored)
		g.hold("P18.1", key, fmt.Sprintf("2v%d 3v%d", i+1, i+1))
	}
	key := keyOf(t, many(2, 4), 2, 3)
	g.goes(g.c.Add(4))
	g.goes(g.c.Add(5))
	g.lays(4, key, 900, record.Value) // of no elder version: it stays as it is
	g.lays(5, key, 1, record.Value)
	g.puts(key, "x", 0, Stored)
	g.hold("P18.1", key, "2v4 3v4 4v900 5t4")
	if Whole(g.c) {
		t.Errorf("P18.2: it was Whole")
	}
	g.drops(key) // of whatever version
	g.hold("P18.1", key, "2t5 3t5 4t5 5t4")
}

// The top is empty: nobody holds the key behind that.
func TestPutOnNobody(t *testing.T) {
	g := newGround(t, 2, 3)
	g.puts("a", "x", 0, Stored)
	for n := 2; n < 5; n++ {
		g.goes(g.c.Drain(n))
	}
	g.what = "all are to go"
	g.puts("a", "y", 0, Dropped)
	g.isGone("a")
	for _, n := range g.c.Members() {
		if s := g.has(n, "a"); s != "" && s != "t2" {
			t.Errorf("P18.1: %s: %d has %q", g.what, n, s)
		}
	}
	before := g.sectors()
	g.puts("b", "y", 0, Dropped)
	g.puts("a", "z", 0, Dropped)
	if g.sectors() != before {
		t.Errorf("P18.1: %s: what nobody holds was put over", g.what)
	}
	for n := 2; n < 5; n++ {
		g.goes(g.c.Leave(n))
	}
	g.what = "nobody is there"
	g.puts("a", "y", 0, Dropped)
	g.drops("a")
	g.isWhole()
	if v := g.next(); v != 7 {
		t.Errorf("P18.1: behind six calls the version is %d", v)
	}
	g.goes(g.c.Add(2))
	g.puts("a", "y", 0, Stored)
	g.isSpread("a", 8, "y", 0)
}

func TestDrop(t *testing.T) {
	g := newGround(t, 2, 3)
	g.puts("a", "x", 0, Stored)
	g.puts("b", "y", 0, Stored)
	top := g.top("a")
	g.c.Store(top[0]).Hide("a")
	g.drops("a")
	g.isGone("a")
	g.isSpread("b", 2, "y", 0)
	for _, n := range g.c.Members() {
		want := ""
		if slices.Contains(top, n) {
			want = "t3"
		}
		if s := g.has(n, "a"); s != want {
			t.Errorf("P18.1: %d has %q of what was dropped", n, s)
		}
	}
	g.p.Crash()
	g.opens()
	g.isGone("a")
	if v := g.next(); v != 64 {
		t.Errorf("P18.1: the version is %d", v)
	}
}

// Of a key that nobody holds nothing is written; but a version goes.
func TestDropOfNothing(t *testing.T) {
	g := newGround(t, 2, 3)
	g.puts("a", "x", 0, Stored)
	g.drops("a")
	before, count := g.sectors(), g.p.Count()
	g.drops("a")
	g.drops("b")
	if g.sectors() != before || g.p.Count() != count+len(before)/api.Sector {
		t.Errorf("P18.1: something was done for a key that nobody holds")
	}
	if v := g.next(); v != 5 {
		t.Errorf("P18.1: behind four calls the version is %d", v)
	}
}

// Put, Drop, in turns, on little room: what is put last is there.
func TestTurns(t *testing.T) {
	g := newGround(t, 2, 3)
	for i := range 200 {
		key := fmt.Sprint("k", i%7)
		g.what = fmt.Sprint("turn ", i)
		if i%5 == 4 {
			g.drops(key)
			g.isGone(key)
			continue
		}
		value := strings.Repeat("v", i%100)
		g.puts(key, value, i, Stored)
		g.isSpread(key, uint64(i+1), value, i)
	}
}

// What layer 7 doesn't let, and what has too many sectors, is told; then
// nothing is done, and no version goes.
func TestWrong(t *testing.T) {
	g := newGround(t, 2, 2)
	g.puts("a", "x", 0, Stored)
	before := g.sectors()
	long := strings.Repeat("k", api.MaxKey+1)
	for _, x := range []struct {
		key, value string
		expiry     int
		want       api.Errno
	}{
		{"", "x", 0, api.ErrSize}, {long, "x", 0, api.ErrSize}, {strings.Repeat("a", 100000), "", 0, api.ErrSize},
		{"a", strings.Repeat("v", api.MaxValue+1), 0, api.ErrSize}, {"a", strings.Repeat("v", 1<<20), 0, api.ErrSize},
		{"a", strings.Repeat("v", 200), 0, api.ErrSize}, // four sectors
		{"a", "x", -1, api.ErrArg}, {"a", "x", math.MinInt, api.ErrArg}, {"a", "x", api.MaxTick + 1, api.ErrArg}, {"a", "x", math.MaxInt, api.ErrArg},
		{"", "x", -1, api.ErrArg}, {long, strings.Repeat("v", 301), math.MaxInt, api.ErrArg},
	} {
		g.what = fmt.Sprintf("%.9q, %.9q, %d", x.key, x.value, x.expiry)
		if o, e := Put(g.c, x.key, x.value, x.expiry); o != 0 || e != x.want {
			t.Errorf("P1: Put of %s: %d, %v", g.what, o, e)
		}
	}
	for _, key := range []string{"", long, strings.Repeat("a", 1<<20)} {
		if e := Drop(g.c, key); e != api.ErrSize {
			t.Errorf("P1: Drop of %.9q: %v", key, e)
		}
	}
	if g.sectors() != before {
		t.Errorf("P1: what is wrong was put")
	}
	if v := g.next(); v != 2 {
		t.Errorf("P1: what is wrong took a version: %d comes", v)
	}
}

// Room at the greatest value that fits, and one byte more.
func TestRoom(t *testing.T) {
	for per := 8; per <= 64; per++ {
		g := newGroundOf(t, crew.Config{Anchor: anchor, Copies: 1, Per: per}, 1+3*per, 1)
		for _, key := range []string{"a", strings.Repeat("k", api.MaxKey)} {
			most := 63*(per/2-1) - 26 - len(key) // the bytes of an entry beside its key and value
			for n := range 2100 {
				if Room(g.c, key, strings.Repeat("v", n)) != (n <= most) {
					t.Fatalf("P18.1: segments of %d: Room of a value of %d bytes is %v", per, n, n > most)
				}
			}
			value := strings.Repeat("v", min(most, api.MaxValue))
			g.puts(key, value, 0, Stored)
			g.isSpread(key, g.next()-1, value, 0)
			if most < api.MaxValue {
				if o, e := Put(g.c, key, value+"v", 0); o != 0 || e != api.ErrSize {
					t.Errorf("P1: segments of %d: one byte more: %d, %v", per, o, e)
				}
			}
		}
		if Room(g.c, strings.Repeat("k", 1<<20), "") || Room(g.c, "", strings.Repeat("v", 1<<20)) {
			t.Errorf("P18.1: segments of %d: Room for far too much", per)
		}
	}
}

// A holder of an elder version than any member's isn't Whole.
func TestWhole(t *testing.T) {
	type laid struct {
		serial  int
		key     string
		version uint64
		kind    int
	}
	v, b := record.Value, record.Tomb
	for i, x := range []struct {
		laid []laid
		want bool
	}{
		{nil, true},
		{[]laid{{2, "a", 1, v}}, true},
		{[]laid{{2, "a", 1, v}, {3, "a", 1, v}}, true},
		{[]laid{{2, "a", 1, v}, {3, "a", 2, v}}, false},
		{[]laid{{2, "a", 2, v}, {3, "a", 1, v}}, false},
		{[]laid{{2, "a", 1, v}, {4, "a", 2, b}}, false},
		{[]laid{{2, "a", 2, b}, {4, "a", 1, v}}, false},
		{[]laid{{2, "a", 2, v}, {4, "a", 1, b}}, true},
		{[]laid{{2, "a", 2, b}, {4, "a", 1, b}}, true},
		{[]laid{{2, "a", 2, v}, {3, "a", 2, b}}, true},
		{[]laid{{2, "a", 1, v}, {3, "b", 2, v}}, true},
		{[]laid{{2, "a", 1, v}, {3, "a", 1, v}, {4, "a", 2, v}}, false},
		{[]laid{{2, "a", 9, v}, {3, "b", 5, v}, {4, "b", 6, b}, {2, "c", 1, v}}, false},
		{[]laid{{2, "a", 9, v}, {3, "b", 6, v}, {4, "b", 5, b}, {2, "c", 1, v}}, true},
		{[]laid{{2, "a", 1, v}, {3, "a", 2, v}, {2, "a", 2, v}}, true},
		{[]laid{{2, "a", 1, v}, {3, "a", 2, v}, {2, "a", 2, b}}, true},
		{[]laid{{2, "a", math.MaxUint64, v}, {3, "a", 1 << 63, v}}, false},
	} {
		for hide := range 8 {
			g := newGround(t, 2, 3)
			g.what = fmt.Sprint("laid ", i)
			for _, y := range x.laid {
				g.lays(y.serial, y.key, y.version, y.kind)
			}
			for n := range 3 {
				if hide>>n&1 == 1 {
					g.c.Store(2 + n).Hide("a")
				}
			}
			count := g.p.Count()
			if Whole(g.c) != x.want || Whole(g.c) != x.want {
				t.Errorf("P18.2: %v: Whole is %v", x.laid, !x.want)
			}
			if g.p.Count() != count {
				t.Errorf("P18.2: Whole works on the devices")
			}
			g.p.Arm(anchor, 0, false)
			g.c.Leave(2)
			if !g.c.Stopped() || Whole(g.c) != x.want {
				t.Errorf("P18.2: %v: stopped: Whole is %v", x.laid, !x.want)
			}
		}
	}
}

// Where there is no version, nothing is put, and it is ErrUnavailable.
func TestNoVersion(t *testing.T) {
	for _, drop := range []bool{false, true} {
		for _, done := range []bool{false, true} {
			g := newGround(t, 2, 2)
			g.puts("a", "x", 0, Stored)
			for g.next() < 63 {
			}
			g.p.Arm(anchor, 0, done)
			var o Outcome
			var e api.Errno
			if drop {
				e = Drop(g.c, "a")
			} else {
				o, e = Put(g.c, "a", "y", 0)
			}
			if o != 0 || e != api.ErrUnavailable {
				t.Errorf("P18.1: without a version: %d, %v", o, e)
			}
			g.hold("P18.1", "a", "2v1 3v1")
			g.isStopped()
			g.p.Crash()
			g.opens()
			g.isSpread("a", 1, "x", 0)
		}
	}
}

// Of no members at all, in a pool with the anchor alone.
func TestEmptyCrew(t *testing.T) {
	p := flash.New()
	p.Add(anchor, 32)
	p.Add(2, 33)
	c, e := crew.Format(p, crew.Config{Anchor: anchor, Copies: 4, Per: 8}, []int{2})
	if e != api.OK || c.Leave(2) != api.OK {
		t.Fatalf("a crew without members: %v", e)
	}
	if o, e := Put(c, "a", "x", 0); o != Dropped || e != api.OK {
		t.Errorf("P18.1: Put on nobody: %d, %v", o, e)
	}
	if e := Drop(c, "a"); e != api.OK || !Whole(c) || !Room(c, "a", "x") {
		t.Errorf("P18.1: Drop on nobody: %v", e)
	}
}
