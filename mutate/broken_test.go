package mutate

import (
	"fmt"
	"math/rand"
	"slices"
	"strings"
	"testing"

	"bandolier/api"
	"bandolier/crew"
	"bandolier/rank"
	"bandolier/record"
	"bandolier/store"
)

// A breach is how a call is broken off: a device's operation behind after
// further ones fails (done or not), or all halts there (device 0).
type breach struct {
	device, after int
	done          bool
}

func (g *ground) strikes(b breach) {
	if b.device == 0 {
		g.p.Halt(b.after)
	} else {
		g.p.Arm(b.device, b.after, b.done)
	}
}

// A scene is a ground made anew for each breach, and a key to put, or drop.
type scene struct {
	*ground
	key string
}

// scenes: of 2 to 5, of which the key belongs to some, and is held by some.
func scenes(t *testing.T) []func() *scene {
	t.Helper()
	all := many(2, 4)
	make := func(copies int, key string, holders ...int) func() *scene {
		return func() *scene {
			s := &scene{newGround(t, copies, 4), key}
			s.what = fmt.Sprint(copies, " copies of ", key, ", held by ", holders)
			version := s.next()
			for _, n := range holders {
				s.lays(n, key, version, record.Value)
			}
			return s
		}
	}
	var l []func() *scene
	for _, x := range []struct {
		copies       int
		top, holders []int
	}{
		{1, []int{5}, []int{2}}, {1, []int{2}, []int{5}}, {1, []int{4}, []int{2, 3, 4, 5}},
		{2, []int{3, 5}, nil}, {2, []int{4, 5}, []int{2, 3}}, {2, []int{2, 3}, []int{4, 5}}, {2, []int{2, 4}, []int{2, 4}},
		{3, []int{2, 4, 5}, []int{3, 4}}, {4, []int{2, 3, 4, 5}, []int{2, 3, 4, 5}},
	} {
		l = append(l, make(x.copies, keyOf(t, all, x.top...), x.holders...))
	}
	return l
}

// brokenOff lets a call be broken off at each operation, in each way; with the
// anchor failing, too, at its first operations, and without.
func brokenOff(make func() *scene, call func(s *scene) api.Errno, look func(s *scene, b breach, e api.Errno)) {
	s := make()
	before := s.p.Count()
	call(s)
	for after := range s.p.Count() - before + 1 {
		for device := range 6 {
			for way := range 6 {
				s, b := make(), breach{device, after, way%2 == 1}
				s.what = fmt.Sprint(s.what, ", fails: ", b)
				s.strikes(b)
				if way > 1 {
					s.p.Arm(anchor, way/2-1, b.done)
					s.what = fmt.Sprint(s.what, ", the anchor behind ", way/2-1)
				}
				e := call(s)
				s.calms()
				look(s, b, e)
			}
		}
	}
}

// isSettled: what holds behind a call of that version, however it ended.
// It answers how it ended.
func (s *scene) isSettled(b breach, e api.Errno, version uint64) string {
	s.t.Helper()
	if e != api.OK {
		if e != api.ErrUnavailable {
			s.t.Errorf("P18.1: %s: %v", s.what, e)
		}
		s.isStopped()
		return "stopped"
	}
	if s.c.Stopped() {
		s.t.Fatalf("P18.3: %s: it is stopped, but OK is answered", s.what)
	}
	s.isWhole()
	if v := s.next(); v != version+1 {
		s.t.Errorf("P18.1: %s: behind version %d comes %d", s.what, version, v)
	}
	if s.c.Outs() == 0 {
		return "well"
	}
	if s.c.Outs() > 1 || slices.Contains(s.c.Roster().All(), b.device) || slices.Contains(s.c.Members(), b.device) {
		s.t.Errorf("P18.3: %s: the members are %v, %d were out", s.what, s.c.Roster().All(), s.c.Outs())
	}
	return "out"
}

// behindACrash: who was out isn't a member; nobody has anything that wasn't
// put.
func (s *scene) behindACrash(ended string, b breach, version uint64) {
	s.t.Helper()
	s.p.Crash(b.after%2, b.device%2, 1, 0, 1)
	s.opens()
	if ended == "out" && slices.Contains(s.c.Members(), b.device) {
		s.t.Errorf("P18.3: %s: behind a crash %d is a member", s.what, b.device)
	}
	for _, n := range s.c.Members() {
		if x, is := s.c.Store(n).Get(s.key); is && x.Version > version {
			s.t.Errorf("P18.1: %s: of %d there is %s", s.what, n, s.has(n, s.key))
		}
	}
	if ended != "stopped" {
		s.isWhole()
	}
}

func TestPutBroken(t *testing.T) {
	ways := map[string]int{}
	for _, make := range scenes(t) {
		var o Outcome
		brokenOff(make, func(s *scene) api.Errno {
			var e api.Errno
			o, e = Put(s.c, s.key, "new", 7)
			return e
		}, func(s *scene, b breach, e api.Errno) {
			ended := s.isSettled(b, e, 2)
			ways[ended]++
			if e == api.OK {
				if o != Stored {
					t.Errorf("P18.1: %s: %d", s.what, o)
				}
				s.isSpread(s.key, 2, "new", 7)
			} else if o != 0 {
				t.Errorf("P18.1: %s: %d beside %v", s.what, o, e)
			}
			s.behindACrash(ended, b, 2)
			if e == api.OK {
				s.isSpread(s.key, 2, "new", 7)
			}
		})
	}
	if ways["well"] < 100 || ways["out"] < 100 || ways["stopped"] < 100 {
		t.Errorf("P18.1: Puts ended so: %v", ways)
	}
}

func TestDropBroken(t *testing.T) {
	ways := map[string]int{}
	for _, make := range scenes(t) {
		brokenOff(make, func(s *scene) api.Errno {
			return Drop(s.c, s.key)
		}, func(s *scene, b breach, e api.Errno) {
			ended := s.isSettled(b, e, 2)
			ways[ended]++
			if e == api.OK {
				s.isGone(s.key)
			}
			s.behindACrash(ended, b, 2)
			if e == api.OK {
				s.isGone(s.key)
			}
		})
	}
	if ways["well"] < 100 || ways["out"] < 80 || ways["stopped"] < 80 {
		t.Errorf("P18.1: Drops ended so: %v", ways)
	}
}

// By rising serials: where it is broken off, those ahead have it, and those
// behind don't.
func TestRising(t *testing.T) {
	for _, make := range scenes(t) {
		for kind, call := range map[int]func(s *scene){
			record.Value: func(s *scene) { Put(s.c, s.key, "new", 7) },
			record.Tomb:  func(s *scene) { Drop(s.c, s.key) },
		} {
			well := make()
			call(well)
			all := well.reached(2)
			for after := range 40 {
				s := make()
				s.what = fmt.Sprint(s.what, ", kind ", kind, ", halts behind ", after)
				s.p.Halt(after)
				call(s)
				if got := s.reached(2); !slices.Equal(got, all[:len(got)]) {
					t.Errorf("P18.1: %s: %v have it, of %v", s.what, got, all)
				}
			}
		}
	}
}

// reached answers who has a slot of that version.
func (s *scene) reached(version uint64) []int {
	var l []int
	for n := 2; n < 6; n++ {
		if x, is := s.c.Store(n).Get(s.key); is && x.Version == version {
			l = append(l, n)
		}
	}
	return l
}

// Who has it when it is done anew gets nothing more.
func TestDoneAnew(t *testing.T) {
	key := keyOf(t, many(2, 4), 2, 4)
	g := newGround(t, 2, 4)
	g.p.Arm(4, 0, false)
	g.puts(key, "x", 0, Stored)
	g.isSpread(key, 1, "x", 0)
	if len(g.c.Members()) != 3 || len(g.top(key)) != 2 || !slices.Contains(g.top(key), 2) {
		t.Fatalf("P18.3: the members are %v, the top %v", g.c.Members(), g.top(key))
	}
	g.lays(2, "z", 9, record.Value)
	if x, _ := g.c.Store(2).Get("z"); x.At.At != 3 {
		t.Errorf("P18.1: 2 got it twice: the next entry is at %d", x.At.At)
	}
	other := g.top(key)[1] + g.top(key)[0] - 2
	g.p.Arm(other, 0, false)
	g.lays(2, key, 50, record.Value)
	g.drops(key) // the other one fails; 2 has a tomb by then
	g.isGone(key)
	g.lays(2, "z", 10, record.Value)
	if x, _ := g.c.Store(2).Get("z"); x.At.Seg != 1 || x.At.At != 3 {
		t.Errorf("P18.1: 2 got a tomb twice: the next entry is at %v", x.At)
	}
}

// One that got a tomb comes to the top when another one fails: it gets the
// value, of the same version.
func TestTombThenValue(t *testing.T) {
	all := many(2, 3)
	for i := range 1000 {
		key := fmt.Sprint("k", i)
		l := rank.Order(key, all)
		if !slices.Equal(l, []int{4, 2, 3}) {
			continue
		}
		g := newGround(t, 1, 3)
		g.lays(2, key, g.next(), record.Value)
		g.p.Arm(4, 0, false)
		g.puts(key, "x", 0, Stored)
		g.hold("P18.1", key, "2v2 3")
		g.isSpread(key, 2, "x", 0)
		g.p.Crash()
		g.opens()
		g.isSpread(key, 2, "x", 0)
		return
	}
	t.Errorf("there is no such key")
}

// All of them fail, one behind the other: nobody is left to hold it.
func TestAllFail(t *testing.T) {
	g := newGround(t, 2, 4)
	g.puts("a", "x", 0, Stored)
	for n := 2; n < 6; n++ {
		g.p.Arm(n, 0, n%2 == 0)
	}
	g.puts("a", "y", 0, Dropped)
	if len(g.c.Roster().All()) != 0 || g.c.Outs() != 4 {
		t.Errorf("P18.3: the members are %v", g.c.Roster().All())
	}
	g.isWhole()
	g = newGround(t, 2, 4)
	g.puts("a", "x", 0, Stored)
	for _, n := range g.top("a") {
		g.p.Arm(n, 1, false)
	}
	g.drops("a")
	g.isGone("a")
	if len(g.c.Roster().All()) != 2 {
		t.Errorf("P18.3: the members are %v", g.c.Roster().All())
	}
}

// A device that is away when it is asked is out; one that isn't asked is not.
func TestAway(t *testing.T) {
	g := newGround(t, 1, 3)
	key := keyOf(t, many(2, 3), 3)
	g.puts(key, "x", 0, Stored)
	g.p.Detach(2)
	g.puts(key, "y", 0, Stored)
	g.hold("P18.1", key, "2 3v2 4")
	g.p.Detach(3)
	g.puts(key, "z", 0, Stored)
	if slices.Contains(g.c.Members(), 3) {
		t.Errorf("P18.3: 3 is a member yet")
	}
	g.p.Attach(2)
	g.p.Attach(3)
	g.p.Crash()
	g.opens()
	g.isWhole()
	for _, n := range g.c.Members() {
		if s := g.has(n, key); s != "" && s != "v3" {
			t.Errorf("P18.1: %d has %s", n, s)
		}
	}
}

// A course of any calls: Puts and Drops, members that come and go, and fail,
// crashes ahead of which all went well.
type course struct {
	*ground
	r    *rand.Rand
	last map[string]record.Entry // what was put of a key; no value: it was dropped
}

func (x *course) step(i int) {
	x.t.Helper()
	key := fmt.Sprint("k", x.r.Intn(6))
	x.what = fmt.Sprint("step ", i, " of ", key)
	if x.r.Intn(4) == 0 {
		x.p.Arm(2+x.r.Intn(6), x.r.Intn(12), x.r.Intn(2) == 0)
	}
	if x.r.Intn(40) == 0 {
		x.p.Arm(anchor, x.r.Intn(5), x.r.Intn(2) == 0)
	}
	switch x.r.Intn(12) {
	case 0:
		x.c.Add(2 + x.r.Intn(6))
	case 1:
		if len(x.c.Members()) > 2 {
			x.c.Drain(2 + x.r.Intn(6))
		}
	case 2:
		x.c.Leave(2 + x.r.Intn(6))
	case 3:
		x.p.Arm(anchor, 1<<40, false)
		x.opens()
	case 4, 5:
		x.asksFor(key)
	case 6, 7:
		x.ends(key, record.Entry{}, 0, Drop(x.c, key))
	default:
		value := strings.Repeat("v", x.r.Intn(160))
		o, e := Put(x.c, key, value, i)
		x.ends(key, record.Entry{Kind: record.Value, Value: value, Expiry: i}, o, e)
	}
}

// asksFor lets a key be hot, or hidden.
func (x *course) asksFor(key string) {
	for _, n := range x.c.Members() {
		if x.r.Intn(4) == 0 {
			x.c.Store(n).Hide(key)
		} else {
			x.c.Do(n, func(s *store.Store) { s.Read(key) })
		}
	}
}

func (x *course) ends(key string, put record.Entry, o Outcome, e api.Errno) {
	x.t.Helper()
	x.calms()
	switch {
	case e == api.ErrUnavailable:
		delete(x.last, key)
	case e != api.OK:
		x.t.Errorf("P18.1: %s: %v", x.what, e)
	case put.Kind == record.Value && (o == Stored) != (len(x.top(key)) > 0):
		x.t.Errorf("P18.1: %s: %d, the top is %v", x.what, o, x.top(key))
	case o == Stored:
		x.last[key] = put
		for _, n := range x.top(key) {
			if held(x.c.Store(n), key) == 0 {
				x.t.Fatalf("P18.1: %s: of the top %d doesn't hold it", x.what, n)
			}
		}
	default:
		x.last[key] = record.Entry{}
		x.isGone(key)
	}
}

// look: it is Whole; whoever holds a key holds what was put last.
func (x *course) look() {
	x.t.Helper()
	x.calms()
	if x.c.Stopped() {
		x.isStopped()
		return
	}
	x.isWhole()
	for key, want := range x.last {
		for _, n := range x.c.Members() {
			if held(x.c.Store(n), key) == 0 {
				continue
			}
			var e record.Entry
			if !x.c.Do(n, func(s *store.Store) { e, _ = s.Read(key) }) || e.Kind != want.Kind || e.Value != want.Value || e.Expiry != want.Expiry {
				x.t.Fatalf("P18.1: %s: %d has %v, but %v was put last", x.what, n, e, want)
			}
		}
	}
}

func TestCourses(t *testing.T) {
	r := rand.New(rand.NewSource(18))
	for i := range 200 {
		sectors := []int{17, 25, 33, 60}[i%4]
		x := &course{newGroundOf(t, crew.Config{Anchor: anchor, Copies: 1 + r.Intn(4), Per: 8}, sectors, 3), r, map[string]record.Entry{}}
		for i := range 60 {
			x.step(i)
			x.look()
			if x.c.Stopped() {
				break // what is there behind an Open is layer 20's
			}
			if r.Intn(15) == 0 {
				x.p.Crash()
				x.opens()
				x.look()
			}
		}
	}
}
