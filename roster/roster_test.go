package roster

import (
	"math"
	"math/rand"
	"reflect"
	"slices"
	"testing"

	"bandolier/api"
)

var serials = []int{math.MinInt, -1, 0, 1, 2, 3, 5, 256, 999, 1000, 1001, 1<<16 + 1, math.MaxInt}

// manyOf answers a roster of n members, of the serials 2, 4, 6 and so on, the
// last of which joined first.
func manyOf(n int) Roster {
	r := Roster{Cache: 3, Epoch: 70, Lease: 128, Joins: 40}
	for i := range n {
		r.Members = append(r.Members, Member{Serial: 2*i + 2, Join: uint64(40 - i), State: i%2 + 1})
	}
	return r
}

// filledOf answers a roster of n members, each Added.
func filledOf(t *testing.T, n int) Roster {
	t.Helper()
	r := Roster{Cache: 1}
	for i := range n {
		r = added(t, r, 2*i+2)
	}
	return r
}

func added(t *testing.T, r Roster, serial int) Roster {
	t.Helper()
	return isLet(t, "Add", func() (Roster, api.Errno) { return r.Add(serial) })
}

func drained(t *testing.T, r Roster, serial int) Roster {
	t.Helper()
	return isLet(t, "Drain", func() (Roster, api.Errno) { return r.Drain(serial) })
}

func removed(t *testing.T, r Roster, serial int) Roster {
	t.Helper()
	return isLet(t, "Remove", func() (Roster, api.Errno) { return r.Remove(serial) })
}

// isLet asks for a roster, which must come, and be one that Check lets.
func isLet(t *testing.T, what string, ask func() (Roster, api.Errno)) Roster {
	t.Helper()
	r, e := ask()
	if e != api.OK {
		t.Fatalf("P10.1: %s: %v", what, e)
	}
	if c := r.Check(); c != api.OK {
		t.Errorf("P10.2: Check of what comes of %s: %v (%v)", what, c, r)
	}
	return r
}

// same: nil, and no members, are the same.
func same(a, b Roster) bool {
	return a.Cache == b.Cache && a.Epoch == b.Epoch && a.Lease == b.Lease && a.Joins == b.Joins && slices.Equal(a.Members, b.Members)
}

func is(t *testing.T, what string, got, want Roster) {
	t.Helper()
	if !same(got, want) {
		t.Errorf("%s: %v, not %v", what, got, want)
	}
}

// isWrong: an error, and the zero roster beside it.
func isWrong(t *testing.T, what string, got Roster, e, want api.Errno) {
	t.Helper()
	if e != want || !reflect.DeepEqual(got, Roster{}) {
		t.Errorf("P10.1: %s: %v, %v, not %v", what, got, e, want)
	}
}

func isChecked(t *testing.T, what string, r Roster, want api.Errno) {
	t.Helper()
	if e := r.Check(); e != want {
		t.Errorf("P10.1: Check of %s: %v, not %v (%v)", what, e, want, r)
	}
}

// changed answers r with a member that is another one.
func changed(r Roster, at int, change func(m *Member)) Roster {
	r.Members = slices.Clone(r.Members)
	change(&r.Members[at])
	return r
}

func TestExample(t *testing.T) {
	r := added(t, Roster{Cache: 1}, 5)
	is(t, "P10.1: example 1", r, Roster{Cache: 1, Epoch: 1, Joins: 1, Members: []Member{{5, 1, Active}}})
}

func TestStates(t *testing.T) {
	if Active != 1 || Draining != 2 {
		t.Errorf("P10.1: the states are %d, %d", Active, Draining)
	}
}

func TestCheckOfRightOnes(t *testing.T) {
	isChecked(t, "Cache 1 alone", Roster{Cache: 1}, api.OK)
	isChecked(t, "no members", Roster{Cache: 1, Members: []Member{}}, api.OK)
	isChecked(t, "the greatest numbers", Roster{math.MaxUint64, math.MaxUint64, math.MaxUint64, math.MaxUint64, []Member{{1, math.MaxUint64, Active}, {2, 1 << 63, Draining}, {1000, 1, Active}}}, api.OK)
	isChecked(t, "numbers of 0 but Cache", Roster{Cache: 1 << 63}, api.OK)
	for n := range 17 {
		isChecked(t, "many", manyOf(n), api.OK)
	}
}

func TestCheckOfMembers(t *testing.T) {
	want := func(lets bool) api.Errno {
		if lets {
			return api.OK
		}
		return api.ErrArg
	}
	for _, n := range []int{1, 2, 15, 16} {
		for at := range n {
			for _, serial := range serials {
				x := changed(manyOf(n), at, func(m *Member) { m.Serial = serial })
				lets := serial >= 1 && serial <= 1000 && (at == 0 || serial > 2*at) && (at == n-1 || serial < 2*at+4)
				isChecked(t, "a serial", x, want(lets))
			}
			for _, state := range []int{math.MinInt, -1, 0, 1, 2, 3, 255, 257, 258, math.MaxInt} {
				x := changed(manyOf(n), at, func(m *Member) { m.State = state })
				isChecked(t, "a state", x, want(state == 1 || state == 2))
			}
			for _, join := range []uint64{0, 1, 24, 25, 26, 39, 40, 41, 1 << 63, math.MaxUint64} {
				x := changed(manyOf(n), at, func(m *Member) { m.Join = join })
				another := join <= 40 && join > 40-uint64(n) && join != 40-uint64(at)
				isChecked(t, "a Join", x, want(join >= 1 && join <= 40 && !another))
			}
		}
	}
}

func TestCheckOfWrongOnes(t *testing.T) {
	isChecked(t, "the zero one", Roster{}, api.ErrArg)
	isChecked(t, "Cache 0", Roster{Epoch: 1, Lease: 64, Joins: 1}, api.ErrArg)
	zero := manyOf(16)
	zero.Cache = 0
	isChecked(t, "Cache 0 of 16", zero, api.ErrArg)
	low := manyOf(3)
	low.Joins = 39
	isChecked(t, "a Join of one more than Joins", low, api.ErrArg)
	isChecked(t, "two serials that are alike", Roster{1, 0, 0, 2, []Member{{5, 1, Active}, {5, 2, Active}}}, api.ErrArg)
	isChecked(t, "serials that fall", Roster{1, 0, 0, 2, []Member{{6, 1, Active}, {5, 2, Active}}}, api.ErrArg)
	isChecked(t, "serials that fall at last", Roster{1, 0, 0, 3, []Member{{1, 1, Active}, {3, 2, Active}, {2, 3, Active}}}, api.ErrArg)
	isChecked(t, "two Joins that are alike", Roster{1, 0, 0, 2, []Member{{5, 1, Active}, {6, 1, Draining}}}, api.ErrArg)
	isChecked(t, "a Join of the first, too", Roster{1, 0, 0, 3, []Member{{5, 1, Active}, {6, 2, Active}, {7, 1, Active}}}, api.ErrArg)
}

func TestCheckOfTooMany(t *testing.T) {
	for _, n := range []int{17, 18, 100} {
		r := manyOf(n)
		r.Joins = 1000
		isChecked(t, "too many", r, api.ErrBig)
		r.Cache = 0
		isChecked(t, "too many, and Cache 0", r, api.ErrBig)
		r.Cache = 1
		for at := range n {
			isChecked(t, "too many, and a serial", changed(r, at, func(m *Member) { m.Serial = 0 }), api.ErrBig)
			isChecked(t, "too many, and a state", changed(r, at, func(m *Member) { m.State = 0 }), api.ErrBig)
			isChecked(t, "too many, and a Join", changed(r, at, func(m *Member) { m.Join = 0 }), api.ErrBig)
		}
	}
	isChecked(t, "too many zero ones", Roster{Members: make([]Member, 17)}, api.ErrBig)
	isChecked(t, "as many zero ones as may be", Roster{Cache: 1, Members: make([]Member, 16)}, api.ErrArg)
}

func TestFind(t *testing.T) {
	for n := range 17 {
		r := manyOf(n)
		for _, serial := range append(serials, 4, 6, 7, 30, 31, 32, 33) {
			m, found := r.Find(serial)
			at := slices.IndexFunc(r.Members, func(m Member) bool { return m.Serial == serial })
			if found != (at >= 0) || found && m != r.Members[at] || !found && m != (Member{}) {
				t.Errorf("P10.1: Find(%d) of %d members: %v, %v", serial, n, m, found)
			}
		}
	}
}

func TestAllAndActive(t *testing.T) {
	for n := range 17 {
		r := manyOf(n)
		var all, active []int
		for i := range n {
			all = append(all, 2*i+2)
			if i%2 == 0 {
				active = append(active, 2*i+2)
			}
		}
		if got := r.All(); !slices.Equal(got, all) {
			t.Errorf("P10.1: All: %v, not %v", got, all)
		}
		if got := r.Active(); !slices.Equal(got, active) {
			t.Errorf("P10.1: Active: %v, not %v", got, active)
		}
	}
}

func TestAdd(t *testing.T) {
	for n := range 16 {
		for _, serial := range []int{1, 3, 9, 15, 17, 31, 33, 999, 1000} {
			r := manyOf(n)
			want := Roster{3, 71, 128, 41, append(slices.Clone(r.Members), Member{serial, 41, Active})}
			slices.SortFunc(want.Members, func(a, b Member) int { return a.Serial - b.Serial })
			is(t, "P10.1: Add", added(t, r, serial), want)
		}
	}
}

func TestAddErrors(t *testing.T) {
	for n := range 17 {
		r := manyOf(n)
		for _, serial := range []int{math.MinInt, -1, 0, 1001, 1002, 1<<16 + 2, math.MaxInt} {
			got, e := r.Add(serial)
			isWrong(t, "Add of a serial that may not be", got, e, api.ErrArg)
		}
		for _, serial := range r.All() {
			got, e := r.Add(serial)
			isWrong(t, "Add of one that is there", got, e, api.ErrThere)
		}
	}
	for _, serial := range []int{1, 3, 33, 1000} {
		got, e := manyOf(16).Add(serial)
		isWrong(t, "Add to 16", got, e, api.ErrFull)
	}
}

func TestDrain(t *testing.T) {
	for n := range 17 {
		r := manyOf(n)
		for at, m := range r.Members {
			if m.State == Draining {
				got, e := r.Drain(m.Serial)
				isWrong(t, "Drain of one that is Draining", got, e, api.ErrThere)
				continue
			}
			want := changed(r, at, func(m *Member) { m.State = Draining })
			want.Epoch = 71
			got := drained(t, r, m.Serial)
			is(t, "P10.1: Drain", got, want)
			again, e := got.Drain(m.Serial)
			isWrong(t, "Drain once more", again, e, api.ErrThere)
		}
		for _, serial := range []int{math.MinInt, -1, 0, 1, 3, 33, 34, 1000, 1001, math.MaxInt} {
			got, e := r.Drain(serial)
			isWrong(t, "Drain of one that isn't there", got, e, api.ErrNone)
		}
	}
}

func TestRemove(t *testing.T) {
	for n := range 17 {
		r := manyOf(n)
		for at, m := range r.Members {
			want := Roster{3, 71, 128, 40, slices.Delete(slices.Clone(r.Members), at, at+1)}
			got := removed(t, r, m.Serial)
			is(t, "P10.1: Remove", got, want)
			again, e := got.Remove(m.Serial)
			isWrong(t, "Remove once more", again, e, api.ErrNone)
		}
		for _, serial := range []int{math.MinInt, -1, 0, 1, 3, 33, 34, 1000, 1001, math.MaxInt} {
			got, e := r.Remove(serial)
			isWrong(t, "Remove of one that isn't there", got, e, api.ErrNone)
		}
	}
}

func TestExtendAndFresh(t *testing.T) {
	for n := range 17 {
		r := manyOf(n)
		want := manyOf(n)
		want.Epoch, want.Lease = 71, 192
		is(t, "P10.1: Extend", r.Extend(), want)
		is(t, "P10.1: Fresh", r.Fresh(), Roster{4, 71, 128, 40, nil})
		isChecked(t, "what comes of Extend", r.Extend(), api.OK)
		isChecked(t, "what comes of Fresh", r.Fresh(), api.OK)
	}
	big := Roster{Cache: 1<<63 - 1, Epoch: 1<<63 - 1, Lease: 1<<63 - 1, Joins: 1<<63 - 1}
	is(t, "P10.1: Extend of great numbers", big.Extend(), Roster{1<<63 - 1, 1 << 63, 1<<63 + 63, 1<<63 - 1, nil})
	is(t, "P10.1: Fresh of great numbers", big.Fresh(), Roster{1 << 63, 1 << 63, 1<<63 - 1, 1<<63 - 1, nil})
	is(t, "P10.1: Add to great numbers", added(t, big, 1000), Roster{1<<63 - 1, 1 << 63, 1<<63 - 1, 1 << 63, []Member{{1000, 1 << 63, Active}}})
}

// What is answered shares nothing with what it was made of, its spare room
// neither, and this is as it was.
func TestSharesNothing(t *testing.T) {
	asks := map[string]func(r Roster) Roster{
		"Add first":      func(r Roster) Roster { x, _ := r.Add(1); return x },
		"Add at last":    func(r Roster) Roster { x, _ := r.Add(1000); return x },
		"Drain":          func(r Roster) Roster { x, _ := r.Drain(2); return x },
		"Remove first":   func(r Roster) Roster { x, _ := r.Remove(2); return x },
		"Remove at last": func(r Roster) Roster { x, _ := r.Remove(10); return x },
		"Extend":         func(r Roster) Roster { return r.Extend() },
		"Fresh":          func(r Roster) Roster { return r.Fresh() },
		"Unpack":         func(r Roster) Roster { x, _ := Unpack(r.Pack()); return x },
	}
	for what, ask := range asks {
		r := manyOf(5)
		r.Members = append(r.Members, make([]Member, 11)...)[:5]
		kept := slices.Clone(r.Members[:16])
		first, second := ask(r), ask(r)
		third := Roster{Members: slices.Clone(second.Members)}
		scribble(first.Members)
		if !slices.Equal(r.Members[:16], kept) || r.Epoch != 70 || r.Joins != 40 || r.Lease != 128 || r.Cache != 3 {
			t.Errorf("P10.1: %s: what it was made of is another one: %v", what, r)
		}
		if !slices.Equal(second.Members, third.Members) {
			t.Errorf("P10.1: %s: two answers share something", what)
		}
		scribble(r.Members)
		if !slices.Equal(second.Members, third.Members) {
			t.Errorf("P10.1: %s: the answer shares something with what it was made of", what)
		}
	}
}

// scribble writes over members, and over their spare room.
func scribble(l []Member) {
	for i := range l[:cap(l)] {
		l[:cap(l)][i] = Member{Serial: -7, Join: 7, State: -7}
	}
}

func TestListsShareNothing(t *testing.T) {
	r := manyOf(6)
	for _, ask := range []func() []int{r.All, r.Active} {
		a, b := ask(), ask()
		a[0] = -1
		if b[0] != 2 || ask()[0] != 2 || r.Members[0].Serial != 2 {
			t.Errorf("P10.1: the lists of serials share something")
		}
	}
}

func TestAnotherJoin(t *testing.T) {
	r := added(t, Roster{Cache: 1}, 5)
	seen := []uint64{1}
	for range 20 {
		r = added(t, removed(t, r, 5), 5)
		m, _ := r.Find(5)
		if slices.Contains(seen, m.Join) {
			t.Errorf("P10.4: a Join comes again: %d", m.Join)
		}
		seen = append(seen, m.Join)
	}
	r = added(t, r.Fresh(), 5)
	if m, _ := r.Find(5); slices.Contains(seen, m.Join) {
		t.Errorf("P10.4: behind a Fresh a Join comes again: %d", m.Join)
	}
}

// Whatever comes, one behind the other: Check lets it, it goes there and back,
// each joining has a Join of its own, and each epoch is one more.
func TestAnyCourse(t *testing.T) {
	for seed := range int64(200) {
		rnd := rand.New(rand.NewSource(seed))
		r := Roster{Cache: 1 + uint64(rnd.Int63n(1<<40)), Joins: uint64(rnd.Int63n(1 << 40))}
		seen := map[uint64]int{}
		for range 200 {
			r = oneMore(t, rnd, r, seen)
		}
	}
}

func oneMore(t *testing.T, rnd *rand.Rand, r Roster, seen map[uint64]int) Roster {
	t.Helper()
	serial := rnd.Intn(24)
	var x Roster
	var e api.Errno
	switch rnd.Intn(12) {
	case 0:
		x = r.Extend()
	case 1:
		x = r.Fresh()
	case 2, 3:
		x, e = r.Drain(serial)
	case 4, 5:
		x, e = r.Remove(serial)
	default:
		if x, e = r.Add(serial); e == api.OK {
			m, is := x.Find(serial)
			if !is || seen[m.Join] > 0 {
				t.Errorf("P10.4: joining %d, once more: %v, %v", serial, m, is)
			}
			seen[m.Join]++
		}
	}
	if e != api.OK {
		return r
	}
	if c := x.Check(); c != api.OK {
		t.Errorf("P10.2: Check of what comes of one that it lets: %v (%v)", c, x)
	}
	if x.Epoch != r.Epoch+1 {
		t.Errorf("P10.1: epoch %d behind %d", x.Epoch, r.Epoch)
	}
	y, e := Unpack(x.Pack())
	if !reflect.DeepEqual(y, x) || e != api.OK {
		t.Errorf("P10.3: %v comes back as %v, %v", x, y, e)
	}
	return y
}
