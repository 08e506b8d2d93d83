package seglog

import (
	"fmt"
	"math"
	"math/rand"
	"slices"
	"strings"
	"testing"

	"bandolier/api"
	"bandolier/heads"
	"bandolier/medium"
)

func TestExample(t *testing.T) {
	g := newGround(t, 3, 8)
	l, _ := g.open()
	g.goesWell(func() {
		l.Start()
		l.Append(text(1, 1))
		l.Start()
		if !l.Reclaim(0) || !slices.Equal(l.Live(), []int{1}) {
			t.Errorf("P12.1: example 1: live is %v", l.Live())
		}
	})
	if l, locs := g.open(); len(locs) != 0 || !slices.Equal(l.Live(), []int{1}) {
		t.Errorf("P12.3: example 1: live is %v, groups at %v", l.Live(), locs)
	}
}

// A device with nothing on it.
func TestNothing(t *testing.T) {
	for _, segs := range []int{2, 3, 63} {
		for _, per := range []int{8, 64} {
			g := newGround(t, segs, per)
			l, locs := g.open()
			if len(locs) != 0 || len(l.Live()) != 0 || l.Free() != segs {
				t.Errorf("P12.1: nothing is there: %v, live %v, free %d", locs, l.Live(), l.Free())
			}
			for _, n := range []int{math.MinInt, -1, 0, 1, per, math.MaxInt} {
				if l.Room(n) {
					t.Errorf("P12.1: nothing is there: Room(%d)", n)
				}
			}
			count := g.p.Count()
			g.goesWell(func() {
				for _, seg := range []int{math.MinInt, -1, 0, 1, segs - 1, segs, math.MaxInt} {
					if l.Reclaim(seg) {
						t.Errorf("P12.1: nothing is there: Reclaim(%d)", seg)
					}
					if s := l.Read(Loc{seg, 1, 1}); s != "" {
						t.Errorf("P12.1: nothing is there: %q", s)
					}
				}
				if x := l.Append(text(1, 1)); x != (Loc{}) {
					t.Errorf("P12.1: nothing is there: Append: %v", x)
				}
			})
			if g.p.Count() != count {
				t.Errorf("P12.1: nothing is there: something was done")
			}
			g.opensAs("P12.2", newModel(segs, per))
		}
	}
}

// Start: the least free one, one by one, till none is.
func TestStart(t *testing.T) {
	for _, x := range []struct{ segs, per int }{{2, 8}, {3, 8}, {5, 9}, {63, 64}, {511, 8}} {
		g := newGround(t, x.segs, x.per)
		l, _ := g.open()
		m := newModel(x.segs, x.per)
		for seg := range x.segs {
			most, count := g.most(), 0
			g.goesWell(func() {
				count = g.p.Count()
				if !l.Start() {
					t.Errorf("P12.1: Start of segment %d of %d: false", seg, x.segs)
				}
				count = g.p.Count() - count
			})
			m.start()
			if count != 2 || g.p.Loose(device) != 0 {
				t.Errorf("P12.1: Start takes %d operations, and leaves %d loose", count, g.p.Loose(device))
			}
			n := numberOf(g.head(seg))
			if n <= most || g.head(seg) != headOf(cache, join, n, false) {
				t.Errorf("P12.1: the Head of segment %d is %x: its Number isn't above %d", seg, g.head(seg), most)
			}
			if bad := g.differs(l, m); bad != "" {
				t.Fatalf("P12.1: behind Start: %s", bad)
			}
			if x.segs > 100 && seg > 3 {
				break // asking for most again and again takes long
			}
		}
		g.goesWell(func() {
			for l.Free() > 0 && l.Start() {
				m.start()
			}
			count := g.p.Count()
			if l.Start() || g.p.Count() != count {
				t.Errorf("P12.1: Start where none is free")
			}
		})
		if bad := g.differs(l, m); bad != "" {
			t.Fatalf("P12.1: where none is free: %s", bad)
		}
		g.opensAs("P12.2", m)
	}
}

func TestReclaim(t *testing.T) {
	for _, segs := range []int{2, 3, 4, 7} {
		g := newGround(t, segs, 8)
		l, _ := g.open()
		m := newModel(segs, 8)
		g.goesWell(func() {
			for l.Start() {
				m.start()
				l.Append(text(len(m.live), 2))
				m.append(text(len(m.live), 2))
			}
		})
		wrong := []int{math.MinInt, -segs, -1, segs - 1, segs, segs + 1, math.MaxInt}
		isRefused := func(l *Log, seg int) {
			t.Helper()
			g.goesWell(func() {
				if count := g.p.Count(); l.Reclaim(seg) || g.p.Count() != count {
					t.Errorf("P12.1: %d segments: Reclaim(%d)", segs, seg)
				}
			})
		}
		for seg := range segs - 1 {
			for _, x := range wrong {
				isRefused(l, x)
			}
			n := numberOf(g.head(seg))
			g.goesWell(func() {
				count := g.p.Count()
				if !l.Reclaim(seg) || g.p.Count() != count+2 || g.p.Loose(device) != 0 {
					t.Errorf("P12.1: Reclaim(%d) takes %d operations, and leaves %d loose", seg, g.p.Count()-count, g.p.Loose(device))
				}
			})
			m.reclaim(seg)
			if g.head(seg) != headOf(cache, join, n, true) {
				t.Errorf("P12.1: the Head of segment %d isn't Free, of Number %d: %x", seg, n, g.head(seg))
			}
			if bad := g.differs(l, m); bad != "" {
				t.Fatalf("P12.1: behind Reclaim: %s", bad)
			}
			isRefused(l, seg)
			g.opensAs("P12.2", m)
			anew, _ := g.open()
			isRefused(anew, seg)
			isRefused(anew, segs-1)
		}
	}
}

// Of a reclaimed segment nothing can be read, nor of one that is started anew.
func TestReclaimedIsGone(t *testing.T) {
	g := newGround(t, 2, 8)
	l, _ := g.open()
	var locs []Loc
	areGone := func(what string, l *Log) {
		t.Helper()
		g.goesWell(func() {
			for _, x := range locs {
				if s := l.Read(x); s != "" {
					t.Errorf("P12.3: %s: %v is %.10q", what, x, s)
				}
			}
		})
	}
	g.goesWell(func() {
		l.Start()
		locs = append(locs, l.Append(text(1, 1)), l.Append(text(2, 2)))
		l.Start()
		l.Append(text(3, 5))
		l.Reclaim(0)
	})
	areGone("reclaimed", l)
	anew, _ := g.open()
	areGone("opened anew", anew)
	g.goesWell(func() { l.Start() })
	areGone("started", l)
	anew, found := g.open()
	areGone("started, and opened anew", anew)
	if !slices.Equal(found, []Loc{{1, 1, 5}}) {
		t.Errorf("P12.3: found %v", found)
	}
	g.goesWell(func() { l.Append(text(4, 1)) }) // just as long as the first one was
	if _, found = g.open(); !slices.Equal(found, []Loc{{1, 1, 5}, {0, 1, 1}}) {
		t.Errorf("P12.3: an elder group behind one that is as long: %v", found)
	}
}

// Room, and Append, around a full segment.
func TestFull(t *testing.T) {
	for _, per := range []int{8, 9, 64} {
		for n := 1; n < per-1; n++ {
			g := newGround(t, 2, per)
			g.what = fmt.Sprint("Per ", per, ", groups of ", n)
			l, _ := g.open()
			m := newModel(2, per)
			g.goesWell(func() { l.Start() })
			m.start()
			for m.room(n) {
				g.goesWell(func() {
					x := text(m.end(0), n)
					if got, want := l.Append(x), m.append(x); got != want {
						t.Errorf("P12.1: %s: at %v, not %v", g.what, got, want)
					}
				})
			}
			if bad := g.differs(l, m); bad != "" {
				t.Fatalf("P12.1: %s: %s", g.what, bad)
			}
			left := per - m.end(0) // sectors, one of which is a Commit's
			g.goesWell(func() {
				count := g.p.Count()
				for _, x := range []string{text(1, n), text(1, max(left, 1)), text(1, per), text(1, 2*per), "", "a", text(1, 1)[1:]} {
					if got := l.Append(x); got != (Loc{}) {
						t.Errorf("P1: %s: no Room for %d bytes, but at %v", g.what, len(x), got)
					}
				}
				if g.p.Count() != count {
					t.Errorf("P1: %s: something was written where there was no Room", g.what)
				}
			})
			g.opensAs("P12.2", m)
			g.goesWell(func() {
				l.Start()
				if x := l.Append(text(7, n)); x != (Loc{1, 1, n}) {
					t.Errorf("P12.1: %s: in the next segment at %v", g.what, x)
				}
			})
			m.start()
			m.append(text(7, n))
			g.opensAs("P12.2", m)
		}
	}
}

// Read of what is no group.
func TestReadWrong(t *testing.T) {
	g := newGround(t, 3, 8)
	l, _ := g.open()
	g.goesWell(func() {
		l.Start()
		l.Append(text(1, 2))
		l.Append(text(2, 1))
		l.Start()
		l.Append(text(3, 5))
		for _, x := range []Loc{
			{}, {0, 0, 1}, {0, -1, 2}, {0, 1, 0}, {0, 1, -1}, {0, 1, 3}, {0, 2, 2}, {0, 3, 1}, {0, 4, 2}, {0, 5, 1}, {0, 6, 1},
			{0, 7, 1}, {0, 1, 8}, {0, 1, 9}, {0, 8, 1}, {0, 9, 5}, {1, 1, 6}, {2, 1, 1}, {3, 1, 1}, {-1, 1, 1}, {-1, 9, 2},
			{math.MaxInt, 1, 1}, {math.MinInt, 1, 1}, {0, math.MaxInt, 1}, {0, math.MinInt, 1}, {0, 1, math.MaxInt}, {0, 1, math.MinInt},
			{0, math.MaxInt, math.MaxInt}, {0, math.MinInt, math.MinInt}, {0, math.MinInt, math.MaxInt}, {0, math.MaxInt, math.MinInt},
		} {
			if s := l.Read(x); s != "" {
				t.Errorf("P12.1: %v is no group, but %.10q", x, s)
			}
		}
		if l.Read(Loc{0, 1, 2}) != text(1, 2) || l.Read(Loc{0, 4, 1}) != text(2, 1) || l.Read(Loc{1, 1, 5}) != text(3, 5) {
			t.Errorf("P12.1: another payload than was appended")
		}
	})
}

// The payload of an Append that was broken off lies there, but is no group's.
func TestReadBehindEnd(t *testing.T) {
	g := newGround(t, 2, 8)
	l, _ := g.open()
	g.goesWell(func() { l.Start(); l.Append(text(1, 1)) })
	g.p.Halt(3)
	medium.Guard(func() { l.Append(text(2, 2)) })
	g.p.Crash(1, 1)
	l, _ = g.open()
	g.goesWell(func() {
		for _, x := range []Loc{{0, 3, 1}, {0, 3, 2}, {0, 4, 1}} {
			if s := l.Read(x); s != "" {
				t.Errorf("P12.1: %v is no group, but %.10q", x, s)
			}
		}
	})
}

// A group's first sectors, and an elder one's behind them, are no group.
func TestReadAcrossEnd(t *testing.T) {
	g := newGround(t, 2, 8)
	l, _ := g.open()
	g.goesWell(func() {
		l.Start()
		l.Append(text(1, 4))
		l.Start()
		l.Reclaim(0)
		l.Start()
		l.Append(text(2, 1))
		for n := 2; n < 6; n++ {
			if s := l.Read(Loc{0, 1, n}); s != "" {
				t.Errorf("P12.3: %d sectors of a group of 1: %d bytes", n, len(s))
			}
		}
		if l.Read(Loc{0, 1, 1}) != text(2, 1) {
			t.Errorf("P12.1: another payload than was appended")
		}
	})
}

// Start and Reclaim, round and round: in each round the other segment, its
// Number greater than any ahead of it.
func TestRound(t *testing.T) {
	for _, segs := range []int{2, 3, 5} {
		g := newGround(t, segs, 8)
		l, _ := g.open()
		m := newModel(segs, 8)
		var greatest uint64
		for round := range 40 {
			g.what = fmt.Sprint(segs, " segments, round ", round)
			g.goesWell(func() {
				if l.Start() != m.start() {
					t.Fatalf("P12.1: %s: Start", g.what)
				}
			})
			n := numberOf(g.head(m.current()))
			if n <= greatest {
				t.Errorf("P12.1: %s: Number %d, behind %d", g.what, n, greatest)
			}
			greatest = n
			g.goesWell(func() {
				for i := range 2 {
					x := text(round, 1+i)
					if l.Append(x) != m.append(x) {
						t.Errorf("P12.1: %s: Append", g.what)
					}
				}
				if len(m.live) == segs {
					first := m.live[0]
					if !l.Reclaim(first) || !m.reclaim(first) {
						t.Errorf("P12.1: %s: Reclaim(%d)", g.what, first)
					}
				}
			})
			if bad := g.differs(l, m); bad != "" {
				t.Fatalf("P12.1: %s: %s", g.what, bad)
			}
			if g.opensAs("P12.2", m); round%3 == 0 {
				l, _ = g.open()
			}
		}
	}
}

// The Number is above that of any Head of this Cache and Join that stands
// there, live or Free; others', and what stands elsewhere, don't count.
func TestNumbers(t *testing.T) {
	live := func(n uint64) string { return headOf(cache, join, n, false) }
	free := func(n uint64) string { return headOf(cache, join, n, true) }
	for what, x := range map[string]struct {
		heads []string
		seg   int // which is started
		live  []int
	}{
		"none":                        {nil, 0, nil},
		"a live one":                  {[]string{live(5)}, 1, []int{0}},
		"a Free one":                  {[]string{free(9)}, 0, nil},
		"a Free one's is the greater": {[]string{live(5), free(1 << 40)}, 1, []int{0}},
		"a Free one, behind":          {[]string{live(5), "", free(77)}, 1, []int{0}},
		"Free ones, all":              {[]string{free(3), free(8), free(2), free(5)}, 0, nil},
		"live ones, not in order":     {[]string{live(7), live(2), live(9), free(1)}, 3, []int{1, 0, 2}},
		"live ones, falling":          {[]string{live(4), live(3), live(2)}, 3, []int{2, 1, 0}},
		"the last one alone":          {[]string{"", "", "", live(6)}, 0, []int{3}},
		"great ones":                  {[]string{live(1<<63 - 2), "", live(1 << 32)}, 1, []int{2, 0}},
		"of 1":                        {[]string{live(1)}, 1, []int{0}},
	} {
		g := newGround(t, 4, 8)
		g.what = what
		for seg, s := range x.heads {
			g.lay(1+seg*8, s)
		}
		l, locs := g.open()
		if !slices.Equal(l.Live(), x.live) || l.Free() != 4-len(x.live) || len(locs) != 0 {
			t.Errorf("P12.1: %s: live %v, free %d", what, l.Live(), l.Free())
		}
		most := g.most()
		g.goesWell(func() {
			if !l.Start() {
				t.Errorf("P12.1: %s: Start", what)
			}
		})
		if n := numberOf(g.head(x.seg)); n <= most || g.head(x.seg) != live(n) {
			t.Errorf("P12.1: %s: started %x, not above %d", what, g.head(x.seg), most)
		}
		want := append(slices.Clone(x.live), x.seg)
		if anew, _ := g.open(); !slices.Equal(l.Live(), want) || !slices.Equal(anew.Live(), want) {
			t.Errorf("P12.1: %s: live %v, anew %v, not %v", what, l.Live(), anew.Live(), want)
		}
	}
}

// Heads of another Cache or Join, and what isn't a Head, are free segments,
// whose Numbers don't count, and whose groups aren't found.
func TestOthers(t *testing.T) {
	broken := []byte(headOf(cache, join, 3, false))
	broken[63] ^= 1
	for what, s := range map[string]string{
		"another Cache":       headOf(cache+1, join, 9, false),
		"another Join":        headOf(cache, join+1, 9, false),
		"the other way round": headOf(join, cache, 9, false),
		"another one's, Free": headOf(cache, join-1, 9, true),
		"Free":                headOf(cache, join, 9, true),
		"a wrong sum":         string(broken),
		"Number 0":            headOf(cache, join, 0, false),
		"a Super":             heads.Super{Cache: cache, Serial: device, Join: join, Segs: 3, Per: 8}.Pack(),
		"a Commit":            heads.Commit{Cache: cache, Join: join, Number: 1, At: 1, Count: 1}.Pack(),
		"a Page":              heads.Page{Seq: 1, Total: 1}.Pack(),
		"payload":             "\x44" + text(1, 1),
		"anything":            strings.Repeat("\xff", 64),
	} {
		g := newGround(t, 3, 8)
		g.what = what
		l, _ := g.open()
		m := newModel(3, 8)
		g.goesWell(func() {
			l.Start()
			l.Append(text(1, 1))
			l.Start()
			l.Append(text(2, 1))
		})
		m.start()
		m.start()
		m.append(text(2, 1))
		g.lay(1, s)
		m.live = []int{1}
		g.opensAs("P12.1", m)
		l, _ = g.open()
		g.goesWell(func() { l.Start(); l.Append(text(3, 1)) })
		m.start()
		m.append(text(3, 1))
		g.opensAs("P12.3", m)
	}
}

// Two logs of one device: of another Join nothing is found, and Numbers begin
// anew.
func TestAnotherJoin(t *testing.T) {
	g := newGround(t, 2, 8)
	l, _ := g.open()
	g.goesWell(func() {
		l.Start()
		l.Append(text(1, 1))
		l.Append(text(2, 1))
		for _, x := range [][2]uint64{{cache, join + 1}, {cache + 1, join}, {0, 0}, {math.MaxUint64, math.MaxUint64}, {cache, 0}} {
			k, locs := Open(g.medium(), x[0], x[1], 2, 8)
			if len(locs) != 0 || len(k.Live()) != 0 || k.Free() != 2 || k.Room(1) {
				t.Errorf("P12.1: of %v: %v, live %v", x, locs, k.Live())
			}
		}
		k, _ := Open(g.medium(), cache, join+1, 2, 8)
		k.Start()
		k.Append(text(3, 1)) // just as long as the first one was
		if _, locs := Open(g.medium(), cache, join+1, 2, 8); !slices.Equal(locs, []Loc{{0, 1, 1}}) {
			t.Errorf("P12.3: another Join's: %v", locs)
		}
		if _, locs := Open(g.medium(), cache, join, 2, 8); len(locs) != 0 {
			t.Errorf("P12.2: what was written over: %v", locs)
		}
	})
}

// Segs and Per that may not be, and a device that has less sectors.
func TestOpenWrong(t *testing.T) {
	g := newGround(t, 3, 8)
	l, _ := g.open()
	g.goesWell(func() { l.Start(); l.Append(text(1, 1)) })
	before := g.sectors(0, 25)
	for _, x := range [][2]int{
		{math.MinInt, 8}, {-1, 8}, {0, 8}, {1, 8}, {1001, 8}, {math.MaxInt, 8}, {math.MaxInt, 64},
		{3, math.MinInt}, {3, -8}, {3, 0}, {3, 7}, {3, 65}, {3, math.MaxInt}, {math.MaxInt, 0}, {math.MaxInt, math.MaxInt},
		{math.MinInt, math.MinInt}, {-1, -1}, {0, 0},
		{5, 8}, {1000, 64}, {3, 64}, {4, 9},
	} {
		b, is := medium.Guard(func() { Open(g.medium(), cache, join, x[0], x[1]) })
		if !is || b != (medium.Broken{Serial: device, Err: api.ErrRange}) {
			t.Errorf("P1: Open of %d segments of %d: %v, %v", x[0], x[1], b, is)
		}
	}
	if g.sectors(0, 25) != before {
		t.Errorf("P1: a wrong Open changed something")
	}
	g = newGround(t, 60, 65) // which has sectors enough
	for _, x := range [][2]int{{2, 65}, {60, 65}, {1, 64}, {500, 7}} {
		if _, is := medium.Guard(func() { Open(g.medium(), cache, join, x[0], x[1]) }); !is {
			t.Errorf("P1: Open of %d segments of %d goes well", x[0], x[1])
		}
	}
}

// Answers are the caller's.
func TestAnswersNew(t *testing.T) {
	g := newGround(t, 3, 8)
	l, _ := g.open()
	g.goesWell(func() { l.Start(); l.Append(text(1, 1)); l.Start(); l.Start() })
	x := l.Live()
	x[0], x[1], x[2] = 9, 9, 9
	if !slices.Equal(l.Live(), []int{0, 1, 2}) {
		t.Errorf("P12.1: Live shares its memory: %v", l.Live())
	}
	x = append(l.Live()[:1], 7)
	g.goesWell(func() { l.Reclaim(0) })
	if !slices.Equal(l.Live(), []int{1, 2}) || !slices.Equal(x, []int{0, 7}) {
		t.Errorf("P12.1: Live shares its memory: %v, %v", l.Live(), x)
	}
}

// The first sector, and what lies behind the segments, is none of the log's.
func TestBeside(t *testing.T) {
	g := newGround(t, 4, 8)
	mine, behind := strings.Repeat("s", 64), strings.Repeat("z", 64*8)
	g.lay(0, mine)
	g.lay(25, behind)
	g.segs = 3
	l, _ := g.open()
	g.goesWell(func() {
		for l.Start() {
			for l.Room(2) {
				l.Append(text(1, 2))
			}
		}
		l.Reclaim(0)
		l.Reclaim(1)
	})
	if g.sectors(0, 1) != mine || g.sectors(25, 8) != behind {
		t.Errorf("P12.1: sectors that aren't the log's changed")
	}
}

// Any calls, held against a plain model.
func TestRandomCalls(t *testing.T) {
	r := rand.New(rand.NewSource(12))
	for range 150 {
		segs, per := 2+r.Intn(5), 8+r.Intn(6)
		if r.Intn(5) == 0 {
			per = 64
		}
		g := newGround(t, segs, per)
		l, _ := g.open()
		m := newModel(segs, per)
		for step := range 60 {
			g.what = fmt.Sprint(segs, " segments of ", per, ", step ", step)
			randomCall(g, r, l, m, step)
			if bad := g.differs(l, m); bad != "" {
				t.Fatalf("P12.1: %s: %s", g.what, bad)
			}
			if r.Intn(6) == 0 {
				g.opensAs("P12.2", m)
				l, _ = g.open()
			}
			if r.Intn(12) == 0 {
				g.p.Crash(r.Intn(2), r.Intn(2))
				g.opensAs("P12.2", m)
				l, _ = g.open()
			}
		}
	}
}

func randomCall(g *ground, r *rand.Rand, l *Log, m *model, step int) {
	g.t.Helper()
	g.goesWell(func() {
		switch r.Intn(4) {
		case 0:
			if got, want := l.Start(), m.start(); got != want {
				g.t.Fatalf("P12.1: %s: Start: %v", g.what, got)
			}
		case 1:
			seg := r.Intn(m.segs+2) - 1
			if got, want := l.Reclaim(seg), m.reclaim(seg); got != want {
				g.t.Fatalf("P12.1: %s: Reclaim(%d): %v", g.what, seg, got)
			}
		default:
			x := text(step, 1+r.Intn(4))
			if !m.room(len(x) / 63) {
				if y := l.Append(x); y != (Loc{}) {
					g.t.Fatalf("P1: %s: no Room, but at %v", g.what, y)
				}
				return
			}
			if got, want := l.Append(x), m.append(x); got != want {
				g.t.Fatalf("P12.1: %s: at %v, not %v", g.what, got, want)
			}
		}
	})
}
