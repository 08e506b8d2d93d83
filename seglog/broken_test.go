package seglog

import (
	"fmt"
	"math/rand"
	"testing"

	"bandolier/api"
	"bandolier/medium"
)

// A breach is how a call is broken off: by a failure of the operation behind
// after further ones (done or not), or by a halt there, and a crash.
type breach struct {
	after      int
	done, halt bool
}

// breaks does do while the pool fails by b: was it broken off?
func (b breach) breaks(g *ground, do func()) bool {
	if b.halt {
		g.p.Halt(b.after)
	} else {
		g.p.Arm(device, b.after, b.done)
	}
	told, is := medium.Guard(do)
	if is && (told.Serial != device || told.Err != api.ErrIO && !b.halt || told.Err != api.ErrDown && b.halt) {
		g.t.Errorf("P12.1: %s: broken off by %v", g.what, told)
	}
	if !is { // what didn't strike isn't to strike what comes behind
		g.p.Halt(-1)
		g.p.Arm(device, 1<<40, false)
	}
	return is
}

// A call of a log, and of the model.
type call struct {
	name string
	log  func(l *Log)
	is   func(m *model)
}

func start() call {
	return call{"Start", func(l *Log) { l.Start() }, func(m *model) { m.start() }}
}

func reclaim(seg int) call {
	return call{fmt.Sprint("Reclaim ", seg), func(l *Log) { l.Reclaim(seg) }, func(m *model) { m.reclaim(seg) }}
}

func appends(name, n int) call {
	return call{fmt.Sprint("Append ", n), func(l *Log) { l.Append(text(name, n)) }, func(m *model) { m.append(text(name, n)) }}
}

// states: what logs are brought to, ahead of the call that is broken off.
func states() [][]call {
	return [][]call{
		{},
		{start()},
		{start(), appends(1, 1)},
		{start(), appends(1, 2), start()},
		{start(), appends(1, 2), appends(2, 1), start(), appends(3, 1)},
		{start(), appends(1, 2), start(), appends(3, 1), reclaim(0)},
		{start(), appends(1, 1), start(), appends(2, 1), reclaim(0), start(), appends(3, 1)},
		{start(), appends(1, 1), start(), appends(2, 1), start(), appends(3, 1)},
		{start(), appends(1, 1), start(), appends(2, 1), start(), appends(3, 1), reclaim(1), reclaim(0), start(), appends(4, 2), reclaim(2), start()},
	}
}

// brought: a log behind these calls, and what it has.
func brought(t *testing.T, calls []call) (*ground, *Log, *model) {
	t.Helper()
	g := newGround(t, 3, 8)
	l, _ := g.open()
	m := newModel(3, 8)
	for _, c := range calls {
		g.goesWell(func() { c.log(l) })
		c.is(m)
	}
	return g, l, m
}

// goesOn: behind whatever was broken off, what is found is a log.
func (g *ground) goesOn(m *model) {
	g.t.Helper()
	l, _ := g.open()
	m = m.clone()
	g.goesWell(func() {
		if len(m.live) == m.segs {
			l.Reclaim(m.live[0])
			m.reclaim(m.live[0])
		}
		most := g.most()
		if !l.Start() || !m.start() {
			g.t.Fatalf("P12.1: %s: Start", g.what)
		}
		if n := numberOf(g.head(m.current())); n <= most {
			g.t.Errorf("P12.1: %s: Number %d, behind %d", g.what, n, most)
		}
		l.Append(text(90, 1))
		m.append(text(90, 1))
		l.Append(text(91, 2))
		m.append(text(91, 2))
	})
	g.opensAs("P12.2", m)
	g.p.Crash()
	g.opensAs("P12.2", m)
}

// Each call is broken off at each of its operations, whatever stays: opened
// anew, the log is as ahead of the call, or as behind it.
func TestBrokenOnce(t *testing.T) {
	for i, state := range states() {
		for _, c := range []call{start(), reclaim(0), reclaim(1), reclaim(2), appends(8, 1), appends(8, 2), appends(8, 3)} {
			for after := range 6 {
				for _, b := range []breach{{after, false, false}, {after, true, false}, {after, false, true}} {
					for stays := range 8 {
						brokenOnce(t, i, state, c, b, stays)
					}
				}
			}
		}
	}
}

func brokenOnce(t *testing.T, i int, state []call, c call, b breach, stays int) {
	t.Helper()
	g, l, ahead := brought(t, state)
	g.what = fmt.Sprint("state ", i, ", ", c.name, b, ", stays ", stays)
	behind := ahead.clone()
	if c.name[0] == 'A' && !ahead.room(int(c.name[len(c.name)-1]-'0')) {
		return
	}
	c.is(behind)
	if !b.breaks(g, func() { c.log(l) }) {
		if bad := g.differs(l, behind); bad != "" {
			t.Fatalf("P12.1: %s: %s", g.what, bad)
		}
		ahead = behind
	}
	if b.halt || stays > 0 { // else it goes on without a crash
		g.p.Crash(stays&1, stays>>1&1, stays>>2&1)
	}
	models := []*model{ahead, behind}
	was := models[g.opensAs("P12.2", models...)]
	g.p.Crash() // what was found once stays
	g.opensAs("P12.2", was)
	g.goesOn(was)
}

// An Open that is broken off changes nothing.
func TestOpenBroken(t *testing.T) {
	for i, state := range states() {
		for after := 0; ; after++ {
			g, _, m := brought(t, state)
			g.what = fmt.Sprint("state ", i, ", Open broken off at ", after)
			if !(breach{after, after%2 == 0, after%3 == 0}).breaks(g, func() { Open(g.medium(), cache, join, 3, 8) }) {
				break
			}
			if after%3 == 0 {
				g.p.Crash()
			}
			g.opensAs("P12.2", m)
		}
	}
}

// What a failed call left loose is found, and built upon: a crash behind that
// can't undo it, nor bring back the half of what was reclaimed.
func TestFailedThenFound(t *testing.T) {
	g, l, m := brought(t, []call{start(), appends(1, 1), appends(2, 1), start(), appends(3, 1), start()})
	ahead := m.clone()
	m.reclaim(0)
	if !(breach{1, false, false}).breaks(g, func() { l.Reclaim(0) }) {
		t.Fatalf("P12.1: Reclaim has less than two operations")
	}
	if g.opensAs("P12.2", ahead, m) == 0 {
		m = ahead
	}
	for _, c := range []call{start(), appends(4, 2)} {
		l, _ = g.open()
		ahead = m.clone()
		c.is(m)
		g.what = c.name
		(breach{1, false, false}).breaks(g, func() { c.log(l) })
		if g.opensAs("P12.3", ahead, m) == 0 {
			m = ahead
		}
	}
	g.p.Crash()
	g.opensAs("P12.3", m)
}

// Random courses: calls that are broken off, one behind the other, each by a
// failure or a crash; each time the log is as ahead of the call, or behind it.
func TestRandomCourses(t *testing.T) {
	r := rand.New(rand.NewSource(13))
	for range 1500 {
		segs, per := 2+r.Intn(3), 8+r.Intn(5)
		g := newGround(t, segs, per)
		m := newModel(segs, per)
		g.what = fmt.Sprint(segs, " segments of ", per, ":")
		for step := range 30 {
			l, _ := g.open()
			ahead := m.clone()
			c := randomChoice(r, m, step)
			c.is(m)
			b := breach{r.Intn(9), r.Intn(2) == 0, r.Intn(2) == 0}
			g.what += fmt.Sprint(" ", c.name, b)
			is := b.breaks(g, func() { c.log(l) })
			if is && (b.halt || r.Intn(3) == 0) || r.Intn(9) == 0 {
				g.p.Crash(r.Intn(2), r.Intn(2), r.Intn(2), r.Intn(2))
			}
			if !is {
				g.opensAs("P12.2", m)
			} else if g.opensAs("P12.2", ahead, m) == 0 {
				m = ahead
			}
		}
	}
}

// randomChoice: a call that does something.
func randomChoice(r *rand.Rand, m *model, step int) call {
	if n := 1 + r.Intn(3); m.room(n) && r.Intn(3) > 0 {
		return appends(step, n)
	}
	if len(m.live) == m.segs || len(m.live) > 1 && r.Intn(3) == 0 {
		return reclaim(m.live[r.Intn(len(m.live)-1)])
	}
	return start()
}
