package table

import (
	"fmt"
	"math"
	"math/rand"
	"slices"
	"strings"
	"testing"

	"bandolier/mix"
)

// A pair is what a list knows of a key.
type pair struct {
	key string
	v   int
}

// A list is what a table is held against.
type list []pair

func (l list) at(key string) int {
	return slices.IndexFunc(l, func(p pair) bool { return p.key == key })
}

func (l *list) put(key string, v int) bool {
	if i := l.at(key); i >= 0 {
		(*l)[i].v = v
		return true
	}
	*l = append(*l, pair{key, v})
	return false
}

func (l list) get(key string) (int, bool) {
	if i := l.at(key); i >= 0 {
		return l[i].v, true
	}
	return 0, false
}

func (l *list) drop(key string) bool {
	i := l.at(key)
	if i >= 0 {
		*l = slices.Delete(*l, i, i+1)
	}
	return i >= 0
}

func (l list) keys() []string {
	var keys []string
	for _, p := range l {
		keys = append(keys, p.key)
	}
	slices.Sort(keys)
	return keys
}

// isAs: the table answers as the list does, of its keys and of others.
func isAs(t *testing.T, what string, x *Table[int], l list, others ...string) {
	t.Helper()
	if x.Len() != len(l) || !slices.Equal(x.Keys(), l.keys()) {
		t.Fatalf("P13.1: %s: %d keys, %q, not %q", what, x.Len(), x.Keys(), l.keys())
	}
	for _, key := range append(l.keys(), others...) {
		v, is := x.Get(key)
		if w, isThere := l.get(key); v != w || is != isThere {
			t.Fatalf("P13.1: %s: Get(%q) is %d, %v, not %d, %v", what, key, v, is, w, isThere)
		}
		if n := x.Steps(key); n < 1 || n > len(l)+1 {
			t.Fatalf("P13.2: %s: Steps(%q) is %d, with %d keys", what, key, n, len(l))
		}
	}
}

func TestExample(t *testing.T) {
	x := New[int](0)
	if x.Put("a", 1) || x.Put("b", 2) || !x.Drop("a") {
		t.Errorf("P13.1: example 1: what was known")
	}
	isAs(t, "example 1", x, list{{"b", 2}}, "a", "")
}

func seeds() []uint64 { return []uint64{0, 1, 7, 1 << 63, math.MaxUint64} }

func TestNothing(t *testing.T) {
	for _, seed := range seeds() {
		x := New[int](seed)
		for _, key := range []string{"", "a", "\x00", strings.Repeat("k", 1000)} {
			isAs(t, "nothing is known", x, nil, key)
			if x.Steps(key) != 1 {
				t.Errorf("P13.2: nothing is known: Steps(%q) is %d", key, x.Steps(key))
			}
			if x.Drop(key) {
				t.Errorf("P13.1: nothing is known: Drop(%q)", key)
			}
		}
		isAs(t, "behind Drop of nothing", x, nil, "", "a")
	}
}

// Any texts are keys, each another one.
func TestAnyKeys(t *testing.T) {
	keys := []string{"", "\x00", "\x00\x00", "a", "a\x00", "A", "\xff", "\xff\xfe", "ä", "\u65e5", " ", strings.Repeat("a", 5000), strings.Repeat("a", 4999)}
	for _, seed := range seeds() {
		x, l := New[int](seed), list{}
		for i, key := range keys {
			if x.Put(key, i+1) {
				t.Errorf("P13.1: Put(%q): something was known", key)
			}
			l.put(key, i+1)
			isAs(t, "any keys", x, l, keys...)
		}
		for _, key := range keys {
			if !x.Drop(key) || x.Drop(key) {
				t.Errorf("P13.1: Drop(%q)", key)
			}
			l.drop(key)
			isAs(t, "any keys", x, l, keys...)
		}
	}
}

func TestEmptyKey(t *testing.T) {
	x := New[int](3)
	isAs(t, "ahead of the empty key", x, nil, "")
	if x.Put("", 5) {
		t.Errorf("P13.1: the empty key was known")
	}
	isAs(t, "the empty key", x, list{{"", 5}}, "a", "\x00")
	if !x.Put("", 0) {
		t.Errorf("P13.1: the empty key wasn't known")
	}
	if v, is := x.Get(""); v != 0 || !is {
		t.Errorf("P13.1: of the empty key a zero is known: %d, %v", v, is)
	}
	if !x.Drop("") {
		t.Errorf("P13.1: the empty key wasn't known")
	}
	isAs(t, "behind the empty key", x, nil, "")
}

func TestPutAgain(t *testing.T) {
	x, l := New[int](9), list{}
	for i := range 40 {
		for _, key := range []string{"a", "b", "c"} {
			if got, want := x.Put(key, i), l.put(key, i); got != want {
				t.Errorf("P13.1: Put(%q) the %dth time: %v", key, i, got)
			}
			isAs(t, "put again", x, l, "d")
		}
	}
}

func TestDropAndPutAgain(t *testing.T) {
	x, l := New[int](9), list{}
	for i := range 12 {
		x.Put(fmt.Sprint("k", i), i)
		l.put(fmt.Sprint("k", i), i)
	}
	for i := range 200 {
		key := fmt.Sprint("k", i%5)
		if !x.Drop(key) || x.Drop(key) || x.Put(key, 100+i) {
			t.Errorf("P13.1: %q dropped and put again", key)
		}
		l.put(key, 100+i)
		isAs(t, "dropped and put again", x, l, "k", "k12", "")
	}
}

// Many keys, of which some are dropped, in different orders.
func TestMany(t *testing.T) {
	const many = 3000
	name := func(i int) string { return fmt.Sprint("key ", i) }
	for _, seed := range seeds() {
		x := New[int](seed)
		for i := range many {
			if x.Put(name(i), i) || x.Len() != i+1 {
				t.Fatalf("P13.1: Put of key %d", i)
			}
		}
		left := many
		for _, by := range []int{7, 3, 2, 1} { // the rest at last
			for i := 0; i < many; i += by {
				_, is := x.Get(name(i))
				if x.Drop(name(i)) != is {
					t.Fatalf("P13.1: Drop of key %d: %v", i, !is)
				}
				if is {
					left--
				}
			}
			areLeft(t, x, left, func(i int) bool { return gone(i, by) }, name, many)
		}
	}
}

// gone: was key i dropped, when the drops had come to that stride?
func gone(i, by int) bool {
	for _, b := range []int{7, 3, 2, 1} {
		if i%b == 0 {
			return true
		}
		if b == by {
			return false
		}
	}
	return true
}

func areLeft(t *testing.T, x *Table[int], left int, isGone func(i int) bool, name func(i int) string, many int) {
	t.Helper()
	if x.Len() != left || len(x.Keys()) != left || !slices.IsSorted(x.Keys()) {
		t.Fatalf("P13.1: %d are left, not %d", x.Len(), left)
	}
	for i := range many + 500 {
		v, is := x.Get(name(i))
		if want := i < many && !isGone(i); is != want || is && v != i || !is && v != 0 {
			t.Fatalf("P13.1: key %d: %d, %v", i, v, is)
		}
		if n := x.Steps(name(i)); n < 1 || n > left+1 {
			t.Fatalf("P13.2: key %d: %d steps, with %d keys", i, n, left)
		}
	}
}

// What was dropped leaves nothing: neither on the way to others, nor in memory.
func TestDroppedLeavesNothing(t *testing.T) {
	x := New[int](5)
	for i := range 5000 {
		key := fmt.Sprint(i)
		x.Put(key, i)
		x.Put("stays", -1)
		if !x.Drop(key) {
			t.Fatalf("P13.1: Drop of %q", key)
		}
		if n := x.Steps(key); n > 2 {
			t.Fatalf("P13.2: Steps(%q) is %d, with one key", key, n)
		}
	}
	x.Drop("stays")
	for i := range 5000 {
		if n := x.Steps(fmt.Sprint(i)); n != 1 {
			t.Fatalf("P13.2: Steps(%d) is %d, with no key", i, n)
		}
	}
	for i := range 5000 {
		x.Put(fmt.Sprint(i), 1)
	}
	for i := range 5000 {
		x.Drop(fmt.Sprint(i))
	}
	if n := len(x.places); n != least {
		t.Errorf("P13.2: %d places are left", n)
	}
	for _, p := range x.places {
		if p != (place[int]{}) {
			t.Errorf("P13.2: something is left: %v", p)
		}
	}
}

// alike: n keys whose search begins at one place, the last one of tables of up
// to 32 places (so that it goes on at the first one), or the one given ahead.
func alike(seed uint64, ahead, n int) []string {
	var keys []string
	for i := 0; len(keys) < n; i++ {
		if key := fmt.Sprint("x", i); mix.Text(key, seed)%32 == uint64(31-ahead) {
			keys = append(keys, key)
		}
	}
	return keys
}

// Keys that are led to one place, and round the circle: each is found, whoever
// of them is dropped.
func TestAlike(t *testing.T) {
	for _, seed := range []uint64{0, 4} {
		keys := append(alike(seed, 0, 3), alike(seed, 1, 2)...)
		keys = append(keys, alike(seed, 30, 1)...)
		for order := range 720 {
			x, l := New[int](seed), list{}
			for i, key := range permuted(keys, order) {
				x.Put(key, i)
				l.put(key, i)
			}
			for _, key := range permuted(keys, order*7%720) {
				if !x.Drop(key) {
					t.Fatalf("P13.1: order %d: Drop(%q)", order, key)
				}
				l.drop(key)
				isAs(t, fmt.Sprint("alike, order ", order), x, l, keys...)
			}
		}
		many, x := alike(seed, 0, 24), New[int](seed)
		for i, key := range many {
			x.Put(key, i)
		}
		if n := x.Steps(many[23]); n != 24 {
			t.Errorf("P13.1: %d places are looked at to find the last of 24 alike", n)
		}
	}
}

// permuted: the keys in the order of that number.
func permuted(keys []string, order int) []string {
	left, out := slices.Clone(keys), []string{}
	for len(left) > 0 {
		i := order % len(left)
		order /= len(left)
		out = append(out, left[i])
		left = slices.Delete(left, i, i+1)
	}
	return out
}

// Of different seeds it is the same table; so it is whatever came ahead.
func TestSeeds(t *testing.T) {
	r := rand.New(rand.NewSource(1))
	var tables []*Table[int]
	for _, seed := range seeds() {
		tables = append(tables, New[int](seed))
	}
	l := list{}
	for i := range 600 {
		key, drop := fmt.Sprint(r.Intn(60)), r.Intn(2) == 0
		var was bool
		if drop {
			was = l.drop(key)
		} else {
			was = l.put(key, i)
		}
		for _, x := range tables {
			got := false
			if drop {
				got = x.Drop(key)
			} else {
				got = x.Put(key, i)
			}
			if got != was {
				t.Fatalf("P13.1: step %d: %q was known: %v", i, key, got)
			}
			isAs(t, "of each seed", x, l, key, "none")
		}
	}
}

// Any calls, held against a list.
func TestRandomCalls(t *testing.T) {
	r := rand.New(rand.NewSource(13))
	for range 200 {
		x, l := New[int](r.Uint64()), list{}
		names, drops := 1+r.Intn(40), 1+r.Intn(5)
		for step := range 150 {
			key := strings.Repeat("k", r.Intn(3)) + string(rune('a'+r.Intn(names)))
			if r.Intn(6) < drops {
				if got, want := x.Drop(key), l.drop(key); got != want {
					t.Fatalf("P13.1: step %d: Drop(%q): %v", step, key, got)
				}
			} else if got, want := x.Put(key, step), l.put(key, step); got != want {
				t.Fatalf("P13.1: step %d: Put(%q): %v", step, key, got)
			}
			isAs(t, fmt.Sprint("step ", step), x, l, key, "", "k", "zz")
		}
	}
}

// Asking changes nothing, and answers the same again.
func TestAskedTwice(t *testing.T) {
	x, l := New[int](2), list{}
	for i := range 50 {
		x.Put(fmt.Sprint(i), i)
		l.put(fmt.Sprint(i), i)
	}
	for i := range 100 {
		key := fmt.Sprint(i)
		if a, b := x.Steps(key), x.Steps(key); a != b {
			t.Errorf("P13.1: Steps(%q) is %d, then %d", key, a, b)
		}
	}
	isAs(t, "asked again", x, l, "50")
}

// Keys answers new memory; the table's keys are its own.
func TestMemory(t *testing.T) {
	x := New[int](2)
	x.Put("b", 2)
	x.Put("a", 1)
	keys := x.Keys()
	keys[0], keys[1] = "y", "z"
	keys = append(x.Keys()[:1], "q")
	x.Put("c", 3)
	isAs(t, "behind a change of Keys", x, list{{"a", 1}, {"b", 2}, {"c", 3}}, "y", "z", "q")
	if !slices.Equal(keys, []string{"a", "q"}) {
		t.Errorf("P13.1: Keys shares its memory: %q", keys)
	}
}

// Values of any type.
func TestAnyValues(t *testing.T) {
	nothing := New[struct{}](1)
	if nothing.Put("a", struct{}{}) || !nothing.Put("a", struct{}{}) {
		t.Errorf("P13.1: of values without anything")
	}
	if _, is := nothing.Get("b"); is || nothing.Len() != 1 {
		t.Errorf("P13.1: of values without anything: %d", nothing.Len())
	}
	lists := New[[]int](1)
	lists.Put("a", []int{1, 2})
	lists.Put("n", nil)
	if v, is := lists.Get("a"); !is || !slices.Equal(v, []int{1, 2}) {
		t.Errorf("P13.1: of lists: %v, %v", v, is)
	}
	if v, is := lists.Get("n"); !is || v != nil {
		t.Errorf("P13.1: of lists, none: %v, %v", v, is)
	}
	lists.Drop("a")
	if v, is := lists.Get("a"); is || v != nil {
		t.Errorf("P13.1: of lists, dropped: %v, %v", v, is)
	}
	things := New[any](1)
	things.Put("f", math.NaN)
	things.Put("x", 1.5)
	if v, is := things.Get("x"); !is || v != any(1.5) {
		t.Errorf("P13.1: of anything: %v, %v", v, is)
	}
	if v, is := things.Get("y"); is || v != nil {
		t.Errorf("P13.1: of anything, none: %v, %v", v, is)
	}
}
