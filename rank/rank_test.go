package rank

import (
	"fmt"
	"math"
	"math/rand"
	"slices"
	"strings"
	"testing"

	"bandolier/mix"
)

// keys: the edges, and others that are alike at each run.
func keys() []string {
	l := []string{"", "\x00", "\xff\xfe", "é", strings.Repeat("k", 24), strings.Repeat("k", 300)}
	for i := range 200 {
		l = append(l, fmt.Sprint("key ", i))
	}
	return l
}

// rs: how many are asked for, the edges among them.
func rs() []int { return []int{math.MinInt, -1, 0, 1, 2, 3, 4, 15, 16, 17, math.MaxInt} }

// devices: lists of serials, rising, each once.
func devices(r *rand.Rand) []int {
	var l []int
	for _, serial := range []int{0, 1, 2, 3, 5, 8, 13, 16, 99, 500, 999, 1000} {
		if r.Intn(3) > 0 {
			l = append(l, serial)
		}
	}
	return l
}

// plain is Order by the chapter's words: each time the best of those that are
// not there yet.
func plain(key string, serials []int) []int {
	var l []int
	for {
		best := -1
		for _, s := range serials {
			if slices.Contains(l, s) {
				continue
			}
			if best < 0 || weight(key, s) > weight(key, best) || weight(key, s) == weight(key, best) && s < best {
				best = s
			}
		}
		if best < 0 {
			return l
		}
		l = append(l, best)
	}
}

func weight(key string, serial int) uint64 { return mix.Pair(mix.Text(key, 0), uint64(serial)) }

// plainTop is the first r of those.
func plainTop(key string, serials []int, r int) []int {
	var l []int
	for i, s := range plain(key, serials) {
		if i < r {
			l = append(l, s)
		}
	}
	return l
}

// plainWithout: those of l that aren't among others, rising.
func plainWithout(l, others []int) []int {
	var left []int
	for _, x := range l {
		if !slices.Contains(others, x) {
			left = append(left, x)
		}
	}
	slices.Sort(left)
	return left
}

func TestWeight(t *testing.T) {
	for _, c := range []struct {
		key    string
		serial int
		want   uint64
	}{
		{"", 0, 0},
		{"", 1, 0x7ab40e090f363a7d},
		{"a", 0, 0x788fdd762d725ed4},
		{"a", 1, 0xc60f50f3be087bc8},
		{"a", 1000, 0xcc2ec873bbecce1f},
		{"key", 5, 0xf439dac8e15cd534},
		{"\xff\x00", 2, 0xff8c6eba6e8b4441},
		{strings.Repeat("a", 24), 16, 0x9fe3d38c6be95c18},
		{"k", 1<<63 - 1, 0xa2e5397bf7593117},
	} {
		if x := Weight(c.key, c.serial); x != c.want {
			t.Errorf("P15.1: Weight(%q, %d) is %x, not %x", c.key, c.serial, x, c.want)
		}
	}
	for _, key := range keys() {
		for serial := range 1001 {
			if x := Weight(key, serial); x != weight(key, serial) {
				t.Fatalf("P15.1: Weight(%q, %d) is %x, not %x", key, serial, x, weight(key, serial))
			}
		}
	}
}

func TestOrder(t *testing.T) {
	for key, want := range map[string][]int{
		"":     {4, 5, 3, 7, 1, 2, 6, 8},
		"a":    {6, 1, 2, 4, 7, 5, 3, 8},
		"b":    {8, 7, 1, 3, 6, 4, 5, 2},
		"key":  {3, 5, 1, 8, 6, 4, 2, 7},
		"\xff": {1, 6, 5, 8, 3, 7, 4, 2},
	} {
		if l := Order(key, []int{1, 2, 3, 4, 5, 6, 7, 8}); !slices.Equal(l, want) {
			t.Errorf("P15.1: Order(%q) is %v, not %v", key, l, want)
		}
	}
	for _, key := range keys() {
		if len(Order(key, nil)) != 0 || len(Order(key, []int{})) != 0 {
			t.Errorf("P15.1: Order(%q) of none is some", key)
		}
		for _, s := range []int{0, 1, 1000, math.MaxInt} {
			if l := Order(key, []int{s}); !slices.Equal(l, []int{s}) {
				t.Errorf("P15.1: Order(%q) of %d alone is %v", key, s, l)
			}
			if l := Order(key, []int{s, s, s}); !slices.Equal(l, []int{s}) {
				t.Errorf("P15.1: Order(%q) of three times %d is %v", key, s, l)
			}
		}
	}
}

// In whatever order the serials come, and however often.
func TestOrderOfAnyList(t *testing.T) {
	r := rand.New(rand.NewSource(1))
	for _, key := range keys() {
		l := devices(r)
		want := plain(key, l)
		for range 10 {
			for range r.Intn(4) {
				if len(l) > 0 {
					l = append(l, l[r.Intn(len(l))])
				}
			}
			r.Shuffle(len(l), func(i, j int) { l[i], l[j] = l[j], l[i] })
			if got := Order(key, l); !slices.Equal(got, want) {
				t.Fatalf("P15.1: Order(%q, %v) is %v, not %v", key, l, got, want)
			}
			n := r.Intn(len(want) + 2)
			if got := Top(key, l, n); !slices.Equal(got, want[:min(n, len(want))]) {
				t.Fatalf("P15.1: Top(%q, %v, %d) is %v, of %v", key, l, n, got, want)
			}
		}
	}
}

// No two serials have one weight for a key, so weights are handed in here.
func TestSameWeight(t *testing.T) {
	alike := func(int) uint64 { return 7 }
	if l := sorted([]int{9, 4, 0, 4, 1000, 1, 9}, alike); !slices.Equal(l, []int{0, 1, 4, 9, 1000}) {
		t.Errorf("P15.1: of the same weight: %v", l)
	}
	inTwos := func(serial int) uint64 { return uint64(serial / 2) }
	if l := sorted([]int{5, 0, 3, 2, 4, 1}, inTwos); !slices.Equal(l, []int{4, 5, 2, 3, 0, 1}) {
		t.Errorf("P15.1: two by two of the same weight: %v", l)
	}
	many := make([]int, 99)
	for i := range many {
		many[i] = 98 - i
	}
	for i, s := range sorted(many, func(serial int) uint64 { return uint64(serial % 3) }) {
		if want := i%33*3 + 2 - i/33; s != want {
			t.Fatalf("P15.1: of many, %d is where %d belongs", s, want)
		}
	}
	// Weights that part in their highest bit alone are held against each other as they are.
	if l := sorted([]int{1, 2}, func(serial int) uint64 { return uint64(serial-1) << 63 }); !slices.Equal(l, []int{2, 1}) {
		t.Errorf("P15.1: 0 and 2^63: %v", l)
	}
}

func TestTop(t *testing.T) {
	r := rand.New(rand.NewSource(2))
	for _, key := range keys() {
		l := devices(r)
		for _, n := range rs() {
			if got, want := Top(key, l, n), plainTop(key, l, n); !slices.Equal(got, want) {
				t.Errorf("P15.1: Top(%q, %v, %d) is %v, not %v", key, l, n, got, want)
			}
			if got := Top(key, nil, n); len(got) != 0 {
				t.Errorf("P15.1: Top(%q, none, %d) is %v", key, n, got)
			}
			if got := Top(key, []int{7}, n); n >= 1 && !slices.Equal(got, []int{7}) {
				t.Errorf("P15.1: example 1: Top(%q, 7, %d) is %v", key, n, got)
			}
		}
	}
}

func isMoved(t *testing.T, key string, old, now []int, n int) {
	t.Helper()
	was, is := plainTop(key, old, n), plainTop(key, now, n)
	come, gone := Moved(key, old, now, n)
	if !slices.Equal(come, plainWithout(is, was)) || !slices.Equal(gone, plainWithout(was, is)) {
		t.Fatalf("P15.1: Moved(%q, %v, %v, %d) is %v, %v, but Top was %v, and is %v", key, old, now, n, come, gone, was, is)
	}
}

func TestMoved(t *testing.T) {
	r := rand.New(rand.NewSource(3))
	for _, key := range keys() {
		for _, n := range rs() {
			old, now := devices(r), devices(r)
			r.Shuffle(len(now), func(i, j int) { now[i], now[j] = now[j], now[i] })
			isMoved(t, key, old, now, n)
			isMoved(t, key, old, nil, n)
			isMoved(t, key, nil, now, n)
			isMoved(t, key, nil, nil, n)
			isMoved(t, key, append(old, old...), now, n)
			if come, gone := Moved(key, old, slices.Concat(now[:0], old, old), n); len(come) != 0 || len(gone) != 0 {
				t.Errorf("P15.1: Moved(%q, %v, the same, %d) is %v, %v", key, old, n, come, gone)
			}
		}
	}
	// All go, all come: both lists rise, though the weights don't.
	old, now := []int{3, 5, 1, 8}, []int{7, 2, 6, 4}
	if come, gone := Moved("key", old, now, 4); !slices.Equal(come, []int{2, 4, 6, 7}) || !slices.Equal(gone, []int{1, 3, 5, 8}) {
		t.Errorf("P15.1: %v, %v", come, gone)
	}
}

// What was handed in is as it was, its spare room, too.
func TestNothingIsChanged(t *testing.T) {
	spare := func() ([]int, []int) {
		all := []int{9, 1, 5, 1, 3, -7, -8, -9}
		return all, all[:5]
	}
	calls := map[string]func(l, k []int){
		"Order": func(l, _ []int) { Order("key", l) },
		"Top":   func(l, _ []int) { Top("key", l, 2) },
		"Moved": func(l, k []int) { Moved("key", l, k, 2) },
	}
	for name, do := range calls {
		one, l := spare()
		two, k := spare()
		do(l, k)
		for _, all := range [][]int{one, two} {
			if !slices.Equal(all, []int{9, 1, 5, 1, 3, -7, -8, -9}) {
				t.Errorf("P15.1: behind %s the list is %v", name, all)
			}
		}
	}
}

// What is answered is new memory: whoever writes there changes nothing else.
func TestAnswersAreNew(t *testing.T) {
	rub := func(l []int) {
		for i := range l {
			l[i] = -1
		}
		for i := range l[:cap(l)] {
			l[:cap(l)][i] = -1
		}
	}
	old, now := []int{1, 2, 3, 4}, []int{5, 6, 7, 8}
	come, gone := Moved("key", old, now, 4)
	rub(come)
	if !slices.Equal(gone, []int{1, 2, 3, 4}) {
		t.Errorf("P15.1: what comes shares memory with what goes: %v", gone)
	}
	rub(gone)
	for _, rising := range [][]int{{5}, {3}, old} {
		rub(Order("key", rising))
		rub(Top("key", rising, 1))
		rub(Top("key", rising, 9))
	}
	if !slices.Equal(old, []int{1, 2, 3, 4}) || !slices.Equal(now, []int{5, 6, 7, 8}) {
		t.Errorf("P15.1: an answer shares memory with what was handed in: %v, %v", old, now)
	}
}

// Where one device comes, a key moves to it alone, at most from one other one.
func TestOneComes(t *testing.T) {
	r := rand.New(rand.NewSource(4))
	moved := 0
	for _, key := range keys() {
		for range 20 {
			old, new := devices(r), 1+r.Intn(1000)
			if slices.Contains(old, new) {
				continue
			}
			now := slices.Insert(slices.Clone(old), r.Intn(len(old)+1), new)
			for _, n := range rs() {
				isMoved(t, key, old, now, n)
				come, gone := Moved(key, old, now, n)
				to := len(come) == 0 || slices.Equal(come, []int{new})
				from := len(gone) == 0 || len(gone) == 1 && len(come) == 1
				if !to || !from {
					t.Fatalf("P15.2: %d comes to %v, of %d: %q moves to %v, from %v", new, old, n, key, come, gone)
				}
				if room := len(old) < n; room && (len(come) != 1 || len(gone) != 0) {
					t.Fatalf("P15.2: %d comes to %v, of %d: there was room for %q: %v, %v", new, old, n, key, come, gone)
				}
				moved += len(gone)
			}
		}
	}
	if moved == 0 {
		t.Errorf("P15.2: whoever comes, no key moves")
	}
}

// Where one device goes, only what it had moves, at most to one other one.
func TestOneGoes(t *testing.T) {
	r := rand.New(rand.NewSource(5))
	stayed := 0
	for _, key := range keys() {
		for range 20 {
			old := devices(r)
			if len(old) == 0 {
				continue
			}
			i := r.Intn(len(old))
			goes, now := old[i], slices.Delete(slices.Clone(old), i, i+1)
			for _, n := range rs() {
				isMoved(t, key, old, now, n)
				come, gone := Moved(key, old, now, n)
				had := slices.Contains(Top(key, old, n), goes)
				if !had {
					stayed++
				}
				wantCome := 0
				if had && len(now) >= n {
					wantCome = 1
				}
				if had != slices.Equal(gone, []int{goes}) || !had && len(gone) > 0 || len(come) != wantCome {
					t.Fatalf("P15.2: %d goes from %v, of %d: %q moves to %v, from %v", goes, old, n, key, come, gone)
				}
			}
		}
	}
	if stayed == 0 {
		t.Errorf("P15.2: whoever goes, all keys move")
	}
}

// Keys belong to all devices, one as much as the other.
func TestAllHaveSome(t *testing.T) {
	has := map[int]int{}
	for i := range 4000 {
		for _, s := range Top(fmt.Sprint(i), []int{1, 2, 3, 4, 5, 6, 7, 8}, 2) {
			has[s]++
		}
	}
	for s := 1; s <= 8; s++ {
		if has[s] < 800 || has[s] > 1200 {
			t.Errorf("P15.1: of 4000 keys on two of eight devices %d belong to %d", has[s], s)
		}
	}
}

// P1: numbers below 0, long lists, long keys.
func TestEveryCallEnds(t *testing.T) {
	long := make([]int, 1<<17)
	for i := range long {
		long[i] = (i*7919)%(1<<16) - 1<<15
	}
	l := Order("key", long)
	if len(l) != 1<<16 {
		t.Errorf("P1: of %d serials, each twice: %d", len(long), len(l))
	}
	if come, gone := Moved("key", long, long[:1], math.MaxInt); len(come) != 0 || len(gone) != 1<<16-1 {
		t.Errorf("P1: Moved: %d, %d", len(come), len(gone))
	}
	few := []int{math.MinInt, -1, 0, math.MaxInt, -1}
	if l := Order(strings.Repeat("\xff", 1<<20), few); len(l) != 4 {
		t.Errorf("P1: of numbers below 0, each once: %v", l)
	}
	for _, n := range rs() {
		if l := Top("", few, n); len(l) != min(max(n, 0), 4) {
			t.Errorf("P1: Top of %d: %v", n, l)
		}
		isRising(t, few, n)
	}
}

func isRising(t *testing.T, serials []int, n int) {
	t.Helper()
	come, gone := Moved("a", serials[:2], serials[2:4], n)
	if !slices.IsSorted(come) || !slices.IsSorted(gone) {
		t.Errorf("P1: Moved of %d: %v, %v", n, come, gone)
	}
}
