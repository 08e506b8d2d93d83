package moves

import (
	"fmt"
	"math/rand"
	"slices"
	"testing"

	"bandolier/api"
	"bandolier/fetch"
	"bandolier/mend"
	"bandolier/mutate"
	"bandolier/rank"
	"bandolier/record"
	"bandolier/roster"
	"bandolier/store"
)

// A plain is a crew whose Steps are done by hand, as the chapter says them. What
// comes to pass meanwhile it is told by whoever does it.
type plain struct {
	*ground
	tried   map[string]bool
	forgets bool
}

func (h *plain) step() bool {
	if h.forgets {
		h.tried, h.forgets = map[string]bool{}, false
	}
	if h.c.Stopped() {
		return false
	}
	for _, key := range h.allKeys() {
		to := h.lacks(key)
		switch {
		case len(to) == 0:
			continue
		case h.tried[key]:
			h.hidesAll(key)
		default:
			h.tried[key] = true
			outs := h.c.Outs()
			h.copies(key, to)
			h.forgets = h.c.Outs() != outs
		}
		return true
	}
	if l := h.drains(); len(l) > 0 {
		h.c.Leave(l[0])
		return true
	}
	return false
}

// allKeys answers the keys of all slots, rising, each once.
func (h *plain) allKeys() []string {
	m := map[string]bool{}
	for _, n := range h.c.Members() {
		for _, key := range h.c.Store(n).Keys() {
			m[key] = true
		}
	}
	var l []string
	for key := range m {
		l = append(l, key)
	}
	slices.Sort(l)
	return l
}

// lacks answers which ones of its top a key is short on, rising.
func (h *plain) lacks(key string) []int {
	if len(h.shows(key)) == 0 {
		return nil
	}
	var active, l []int
	for _, x := range h.c.Roster().Members {
		if x.State == roster.Active {
			active = append(active, x.Serial)
		}
	}
	top := rank.Order(key, active)
	for _, n := range active {
		if slices.Index(top, n) < h.c.Config().Copies && !h.holds(n, key) {
			l = append(l, n)
		}
	}
	return l
}

// shows answers who holds a key, not hidden, rising.
func (h *plain) shows(key string) []int {
	var l []int
	for _, n := range h.c.Members() {
		if h.holds(n, key) {
			l = append(l, n)
		}
	}
	return l
}

func (h *plain) hidesAll(key string) {
	for _, n := range h.c.Members() {
		if x, is := h.c.Store(n).Get(key); is && x.Kind == record.Value {
			h.c.Store(n).Hide(key)
		}
	}
}

func (h *plain) copies(key string, to []int) {
	var x record.Entry
	well := h.c.Do(rank.Order(key, h.shows(key))[0], func(s *store.Store) { x, _ = s.Read(key) })
	for _, n := range to {
		well = well && h.c.Do(n, func(s *store.Store) { s.Put(x) })
	}
}

// A course is a crew with a Mover, and one just like it whose Steps are done by
// hand.
type course struct {
	t     *testing.T
	r     *rand.Rand
	g     *ground
	h     *plain
	wild  bool // members may have what no call of a cache lets them have
	count map[string]int
}

func newCourse(t *testing.T, seed int64, count map[string]int) *course {
	t.Helper()
	r := rand.New(rand.NewSource(seed))
	copies, members := 1+r.Intn(4), 1+r.Intn(6)
	per, sectors := 8, 1+8*(2+r.Intn(4))
	if seed%4 == 0 {
		per, sectors = 16, 1+16*(2+r.Intn(3))
	}
	c := &course{t: t, r: r, wild: seed%3 == 0, count: count}
	c.g = newGroundOf(t, copies, members, sectors, per)
	c.h = &plain{newGroundOf(t, copies, members, sectors, per), map[string]bool{}, false}
	c.g.what = fmt.Sprint("seed ", seed)
	c.h.what = fmt.Sprint("seed ", seed, ", by hand")
	return c
}

// both does something to both crews. If members came, went, failed, or were to
// drain by that, the second one's Mover is told.
func (c *course) both(do func(g *ground) bool) {
	outs := c.h.c.Outs()
	a, b := do(c.g), do(c.h.ground)
	if a != b {
		c.t.Fatalf("%s: %v, by hand %v", c.g.what, a, b)
	}
	if b || c.h.c.Outs() != outs {
		c.h.forgets = true
	}
}

func (c *course) same() {
	c.t.Helper()
	if g, h := c.g.state(), c.h.state(); g != h {
		c.t.Fatalf("P21.1: %s: there is\n%s\nand by hand\n%s", c.g.what, g, h)
	}
}

func (c *course) key() string { return fmt.Sprint("key", c.r.Intn(14)) }

// serial answers one that is there, or any one.
func (c *course) serial() int {
	if l := c.g.c.Members(); len(l) > 0 && c.r.Intn(3) > 0 {
		return l[c.r.Intn(len(l))]
	}
	return c.r.Intn(last + 2)
}

// event lets something come to pass.
func (c *course) event() {
	key, serial, expiry, touch := c.key(), c.serial(), c.r.Intn(3)/2*over, c.r.Intn(4) > 0
	few := len(c.g.c.Members()) < 3
	switch what := c.r.Intn(20); {
	case what < 8:
		c.count["puts"]++
		c.both(func(g *ground) bool {
			if version, is := g.c.Version(); is {
				mutate.Put(g.c, key, textOf(key, version+1), expiry)
			}
			return touch && c.touches(g)
		})
	case what < 10:
		c.both(func(g *ground) bool { mutate.Drop(g.c, key); return touch && c.touches(g) })
	case what < 12:
		c.both(func(g *ground) bool { fetch.Get(g.c, key, expiry); return false })
	case what < 14 || few:
		c.both(func(g *ground) bool { return c.told("Add", g.c.Add(serial)) })
	case what < 15:
		c.both(func(g *ground) bool { return c.told("Drain", g.c.Drain(serial)) })
	case what < 16:
		c.both(func(g *ground) bool { return c.told("Leave", g.c.Leave(serial)) })
	case what < 17:
		c.both(c.touches)
	case what < 18:
		c.arms(serial)
	case c.wild:
		c.lays(key, serial)
	}
}

func (c *course) told(what string, e api.Errno) bool {
	if e == api.OK {
		c.count[what]++
	}
	return e == api.OK
}

func (c *course) touches(g *ground) bool {
	g.m.Touch()
	return true
}

// arms lets an operation to come fail, of the anchor, too, at times.
func (c *course) arms(serial int) {
	after, done, anchored := c.r.Intn(8), c.r.Intn(2) == 0, c.r.Intn(8) == 0
	c.both(func(g *ground) bool {
		g.p.Arm(serial, after, done)
		if anchored {
			g.p.Arm(anchor, after/2, done)
		}
		return false
	})
}

// lays lets a member have anything.
func (c *course) lays(key string, serial int) {
	e := record.Entry{Key: key, Version: uint64(1 + c.r.Intn(200)), Kind: record.Tomb}
	if c.r.Intn(3) > 0 {
		e.Kind, e.Value, e.Expiry = record.Value, textOf(key, e.Version), c.r.Intn(2)*over
	}
	hide := c.r.Intn(2) == 0
	c.both(func(g *ground) bool {
		g.c.Do(serial, func(s *store.Store) {
			s.Put(e)
			if hide {
				s.Hide(key)
			}
		})
		return false
	})
}

// steps: a Step does what it is to do, or nothing, as Done says.
func (c *course) steps() bool {
	c.t.Helper()
	g, h := c.g, c.h
	ahead, outs, done, keys := g.hitsAtAll(), g.c.Outs(), g.m.Done(), len(fetch.Keys(g.c))
	whole := mutate.Whole(g.c) // else a value that goes may let another one's version be the first
	is := g.m.Step()
	if want := h.step(); is != want || is == done {
		c.t.Fatalf("P21.1: %s: Step: %v, Done: %v, by hand %v", g.what, is, done, want)
	}
	c.same()
	if whole {
		g.noneElse(ahead)
	}
	if is {
		c.count["steps"]++
	}
	if is && g.c.Outs() == outs && len(fetch.Keys(g.c)) < keys {
		c.count["hidden, or gone"]++
	}
	return is
}

// settles: with nothing else, and nothing that fails, it comes to an end.
func (c *course) settles() {
	c.t.Helper()
	c.both(func(g *ground) bool { g.calms(); return false })
	most, n := Bound(c.g.c), 0
	for ; c.steps(); n++ {
		if n == most {
			c.t.Fatalf("P21.2: %s: more Steps than Bound, %d", c.g.what, most)
		}
	}
	if c.g.c.Stopped() {
		c.count["stopped"]++
		return
	}
	c.count["settled"]++
	c.g.isSettled()
	c.h.sectors() // as many operations by hand
	c.h.sectors()
	c.g.reads()
	c.h.reads()
	c.same()
	if !c.wild && !mutate.Whole(c.g.c) {
		c.t.Fatalf("P21.3: %s: it isn't Whole", c.g.what)
	}
}

// opens lets both be opened anew behind a crash.
func (c *course) opens() {
	c.t.Helper()
	if c.r.Intn(2) == 0 {
		c.both(func(g *ground) bool { g.calms(); return false })
	}
	var stays []int
	for range c.r.Intn(12) {
		stays = append(stays, c.r.Intn(2))
	}
	c.both(func(g *ground) bool {
		g.p.Crash(stays...)
		w, _, e := mend.Open(g.p, g.c.Config())
		g.ok("Open", e)
		g.c, g.m = w, New(w)
		return true
	})
	c.count["opened"]++
}

// runs lets the course go on for so many events and Steps.
func (c *course) runs(n int) {
	c.t.Helper()
	name := c.g.what
	for i := range n {
		c.g.what = fmt.Sprint(name, ", event ", i)
		switch what := c.r.Intn(100); {
		case what < 55:
			c.event()
			c.same()
		case what < 94:
			c.steps()
		case what < 97:
			c.settles()
		case what < 98 || c.g.c.Stopped():
			c.opens()
		}
	}
	c.settles()
	if c.g.sectors() != c.h.sectors() {
		c.t.Fatalf("P21.1: %s: on the devices isn't what is there by hand", c.g.what)
	}
}

// Random courses: what Steps do is what the chapter says, behind any calls and
// failures; they come to an end; no hit has another value by them.
func TestCourses(t *testing.T) {
	count := map[string]int{}
	for seed := range int64(60) {
		newCourse(t, seed, count).runs(300)
	}
	for what, least := range map[string]int{
		"puts": 3000, "Add": 300, "Drain": 100, "Leave": 100, "steps": 2000, "hidden, or gone": 200, "stopped": 10, "settled": 400, "opened": 50,
	} {
		if count[what] < least {
			t.Errorf("P21.1: the courses had %d %s: %v", count[what], what, count)
		}
	}
}
