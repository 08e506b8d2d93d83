package stats

import (
	"fmt"
	"math"
	"math/rand"
	"slices"
	"strconv"
	"strings"
	"testing"

	"bandolier/api"
	"bandolier/chance"
)

const most = math.MaxUint64

var (
	allKinds = []int{Gets, Hits, Puts, Stored, Drops, Outs, Steps, Errors}
	noKinds  = []int{-1, 8, 9, 64, 256, math.MinInt, math.MaxInt, math.MinInt + 1, -8}
)

// of answers the Stats with those counts, in the kinds' order.
func of(counts ...uint64) Stats {
	var s Stats
	for kind, n := range counts {
		s.Add(kind, n)
	}
	return s
}

// going answers the Stats with that going rate, and nothing else.
func going(t *testing.T, rate float64) Stats {
	t.Helper()
	s, e := Parse("0 0 0 0 0 0 0 0 none " + chance.Text(rate))
	if e != api.OK {
		t.Fatalf("P22.3: of the going rate %v: %v", rate, e)
	}
	return s
}

func (s Stats) all() []uint64 {
	var l []uint64
	for _, kind := range allKinds {
		l = append(l, s.Count(kind))
	}
	return l
}

// same: of no number there is one kind alone.
func same(a, b float64) bool { return math.Float64bits(a) == math.Float64bits(b) }

func TestKinds(t *testing.T) {
	if l := []int{0, 1, 2, 3, 4, 5, 6, 7}; !slices.Equal(allKinds, l) {
		t.Errorf("P22.1: the kinds are %v", allKinds)
	}
	const counted uint8 = Errors // of whatever type of numbers
	if counted != 7 {
		t.Errorf("P22.1: Errors is %d", counted)
	}
}

// Each kind is counted by itself, behind any others.
func TestAdd(t *testing.T) {
	for _, kind := range allKinds {
		var s Stats
		want := make([]uint64, len(allKinds))
		for _, n := range []uint64{1, 0, 5, 1 << 40} {
			s.Add(kind, n)
			want[kind] += n
			if !slices.Equal(s.all(), want) {
				t.Errorf("P22.1: Add(%d, %d): %v, not %v", kind, n, s.all(), want)
			}
		}
		if s.Going() != 0 {
			t.Errorf("P22.1: Add(%d): the going rate is %v", kind, s.Going())
		}
	}
}

func TestAddOfNoKind(t *testing.T) {
	for _, s := range []Stats{{}, of(1, 2, 3, 4, 5, 6, 7, 8)} {
		was := s
		for _, kind := range noKinds {
			s.Add(kind, 3)
			if s != was || s.Count(kind) != 0 {
				t.Errorf("P22.1: kind %d: %v, count %d", kind, s, s.Count(kind))
			}
		}
	}
}

// sums: what two counts are together.
var sums = []struct{ a, b, want uint64 }{
	{most, 0, most}, {0, most, most}, {most, 1, most}, {1, most, most}, {most, most, most},
	{most - 1, 0, most - 1}, {most - 1, 1, most}, {most - 1, 2, most}, {1, most - 1, most}, {2, most - 1, most},
	{1 << 63, 1 << 63, most}, {1 << 63, 1<<63 - 1, most}, {1<<63 - 1, 1<<63 - 1, most - 1}, {0, 0, 0},
	{1 << 32, 1 << 32, 1 << 33}, {math.MaxInt64, 1, 1 << 63}, {most - 5, 5, most}, {most - 5, 4, most - 1}, {most - 5, 6, most},
}

func TestMost(t *testing.T) {
	for _, x := range sums {
		for _, kind := range allKinds {
			var s, other Stats
			s.Add(kind, x.a)
			other.Add(kind, x.b)
			both := s.And(other)
			s.Add(kind, x.b)
			if n := s.Count(kind); n != x.want {
				t.Errorf("P22.1: %d: Add of %d and %d: %d", kind, x.a, x.b, n)
			}
			if both != s {
				t.Errorf("P22.1: %d: And of %d and %d: %v", kind, x.a, x.b, both)
			}
		}
	}
}

// At the greatest count a question more changes the going rate alone.
func TestAskedAtMost(t *testing.T) {
	s := of(most, most-1)
	s.Asked(true, 1)
	if s.Count(Gets) != most || s.Count(Hits) != most || s.Going() != 1 {
		t.Errorf("P22.1: %v, going %v", s.all(), s.Going())
	}
	s.Asked(true, 0.5)
	s.Asked(false, 0.5)
	if s.Count(Gets) != most || s.Count(Hits) != most || s.Going() != 0.5 {
		t.Errorf("P22.1: %v, going %v", s.all(), s.Going())
	}
}

func TestAsked(t *testing.T) {
	for _, x := range []struct {
		hits string // h: it hit
		by   float64
		want float64
	}{
		{"", 0.5, 0},
		{"h", 0.5, 0.5}, {"hm", 0.5, 0.25}, {"hmm", 0.5, 0.125}, {"hmh", 0.5, 0.625}, {"hhh", 0.5, 0.875}, {"mmm", 0.5, 0}, {"mh", 0.25, 0.25},
		{"h", 0, 0}, {"hh", math.Copysign(0, -1), 0},
		{"h", 1, 1}, {"hm", 1, 0}, {"hmh", 1, 1},
		{"h", -0.5, 0}, {"hhm", math.Inf(-1), 0}, {"h", -math.MaxFloat64, 0},
		{"h", 1.5, 1}, {"hm", 2, 0}, {"hh", math.Inf(1), 1}, {"hhm", math.Inf(1), 0}, {"h", math.MaxFloat64, 1},
		{"h", math.NaN(), 0}, {"hhm", math.NaN(), 0},
		{"h", math.SmallestNonzeroFloat64, math.SmallestNonzeroFloat64}, {"hm", 1.0 / 8, 1.0/8 - 1.0/64},
	} {
		var s Stats
		hits := 0
		for _, how := range x.hits {
			s.Asked(how == 'h', x.by)
			if how == 'h' {
				hits++
			}
		}
		if !slices.Equal(s.all(), []uint64{uint64(len(x.hits)), uint64(hits), 0, 0, 0, 0, 0, 0}) {
			t.Errorf("P22.1: Asked %q by %v: %v", x.hits, x.by, s.all())
		}
		if !same(s.Going(), x.want) {
			t.Errorf("P22.1: Asked %q by %v: the going rate is %v, not %v", x.hits, x.by, s.Going(), x.want)
		}
	}
}

// The going rate goes by each question's own rate, and by nothing else.
func TestAskedByOthers(t *testing.T) {
	var s Stats
	s.Asked(true, 1)
	s.Add(Hits, 10)
	s.Add(Gets, 100)
	for _, by := range []float64{0, -1, math.NaN(), math.Inf(-1)} {
		s.Asked(false, by)
		if s.Going() != 1 {
			t.Errorf("P22.1: by %v: the going rate is %v", by, s.Going())
		}
	}
	s.Asked(false, 0.25)
	s.Asked(true, 0.5)
	if s.Going() != 0.875 || s.Count(Gets) != 107 || s.Count(Hits) != 12 {
		t.Errorf("P22.1: %v, going %v", s.all(), s.Going())
	}
}

func TestRate(t *testing.T) {
	for _, x := range []struct {
		hits, gets uint64
		want       float64
	}{
		{0, 1, 0}, {1, 1, 1}, {1, 2, 0.5}, {3, 4, 0.75}, {2, 1, 2}, {1, 3, 1.0 / 3}, {most, most, 1}, {1 << 63, most, 0.5},
		{0, 0, math.Float64frombits(0x7ff8000000000001)}, {1, 0, math.Inf(1)}, {most, 0, math.Inf(1)}, {0, most, 0},
		{1<<53 + 1, 1, 1 << 53},
	} {
		s := of(x.gets, x.hits, 7, 7, 7, 7, 7, 7)
		if !same(s.Rate(), x.want) {
			t.Errorf("P22.1: Rate of %d by %d: %v", x.hits, x.gets, s.Rate())
		}
	}
	var s Stats
	if !math.IsNaN(s.Rate()) || !same(s.Going(), 0) {
		t.Errorf("P22.1: of nothing: %v, %v", s.Rate(), s.Going())
	}
}

// The counts of both, and the greater going rate; both stay as they are.
func TestAnd(t *testing.T) {
	s, u := of(1, 2, 3, 4, 5, 6, 7, 8), of(10, 20, 30, 40, 50, 60, 70, 80)
	s.Asked(true, 0.5)
	u.Asked(false, 0.5)
	wasS, wasU := s, u
	if b := s.And(u); !slices.Equal(b.all(), []uint64{13, 23, 33, 44, 55, 66, 77, 88}) || b.Going() != 0.5 {
		t.Errorf("P22.1: And: %v, going %v", b.all(), b.Going())
	}
	if b := u.And(s); b.Going() != 0.5 {
		t.Errorf("P22.1: And: going %v", b.Going())
	}
	if s != wasS || u != wasU {
		t.Errorf("P22.1: And changes what it is of: %v, %v", s, u)
	}
	if b := s.And(Stats{}); b != s {
		t.Errorf("P22.1: And of none: %v", b)
	}
	for _, a := range []float64{0, math.SmallestNonzeroFloat64, 0.25, math.Nextafter(1, 0), 1} {
		for _, b := range []float64{0, math.SmallestNonzeroFloat64, 0.25, math.Nextafter(1, 0), 1} {
			if got := going(t, a).And(going(t, b)).Going(); !same(got, max(a, b)) {
				t.Errorf("P22.1: And of the going rates %v and %v: %v", a, b, got)
			}
		}
	}
}

// drawn answers any Stats, for the most part near to where its parts end.
func drawn(r *rand.Rand) Stats {
	edges := []uint64{0, 1, 2, 1 << 53, 1 << 63, most - 1, most}
	var s Stats
	for _, kind := range allKinds {
		n := edges[r.Intn(len(edges))]
		if r.Intn(3) == 0 {
			n = r.Uint64() >> r.Intn(64)
		}
		s.Add(kind, n)
	}
	for range r.Intn(4) {
		s.Asked(r.Intn(2) == 0, []float64{r.Float64(), 0.5, 1, 0}[r.Intn(4)])
	}
	return s
}

func TestAndBothWays(t *testing.T) {
	r := rand.New(rand.NewSource(22))
	for range 3000 {
		a, b, c := drawn(r), drawn(r), drawn(r)
		if a.And(b) != b.And(a) {
			t.Fatalf("P22.2: of %v and %v: %v, but %v", a, b, a.And(b), b.And(a))
		}
		if a.And(b).And(c) != a.And(b.And(c)) {
			t.Fatalf("P22.2: of %v, %v and %v: %v, but %v", a, b, c, a.And(b).And(c), a.And(b.And(c)))
		}
	}
}

// texts: what a Stats is as a text.
func texts(t *testing.T) map[string]Stats {
	t.Helper()
	asked := of(0, 0, 0, 0, 0, 3)
	asked.Asked(true, 0.5)
	asked.Asked(false, 0.5)
	return map[string]Stats{
		"0 0 0 0 0 0 0 0 none 0000000000000000":                                                         {},
		"2 1 0 0 0 3 0 0 3fe0000000000000 3fd0000000000000":                                             asked,
		"1 0 0 0 0 0 0 0 0000000000000000 0000000000000000":                                             of(1),
		"0 1 0 0 0 0 0 0 all 0000000000000000":                                                          of(0, 1),
		"10 20 30 40 50 60 70 80 4000000000000000 0000000000000000":                                     of(10, 20, 30, 40, 50, 60, 70, 80),
		"18446744073709551615 18446744073709551615 0 0 0 0 0 0 3ff0000000000000 0000000000000000":       of(most, most),
		"0 0 18446744073709551614 1 18446744073709551615 0 0 9223372036854775808 none 0000000000000000": of(0, 0, most-1, 1, most, 0, 0, 1<<63),
		"0 0 0 0 0 0 0 0 none 3ff0000000000000":                                                         going(t, 1),
		"0 0 0 0 0 0 0 0 none 0000000000000001":                                                         going(t, math.SmallestNonzeroFloat64),
		"0 0 0 0 0 0 0 0 none 3fefffffffffffff":                                                         going(t, math.Nextafter(1, 0)),
		"3 1 0 0 0 0 0 0 3fd5555555555555 0000000000000000":                                             of(3, 1),
		"1 18446744073709551615 0 0 0 0 0 0 43f0000000000000 0000000000000000":                          of(1, most),
		"18446744073709551615 1 0 0 0 0 0 0 3bf0000000000000 0000000000000000":                          of(most, 1),
		"9007199254740993 9007199254740992 0 0 0 0 0 123456789012345 3ff0000000000000 0000000000000000": of(1<<53+1, 1<<53, 0, 0, 0, 0, 0, 123456789012345),
	}
}

func TestText(t *testing.T) {
	for text, s := range texts(t) {
		if x := s.Text(); x != text {
			t.Errorf("P22.1: Text: %q, not %q", x, text)
		}
		if back, e := Parse(text); back != s || e != api.OK {
			t.Errorf("P22.3: Parse of %q: %v, %v", text, back, e)
		}
	}
}

func TestThereAndBack(t *testing.T) {
	r := rand.New(rand.NewSource(3))
	for range 3000 {
		s := drawn(r)
		back, e := Parse(s.Text())
		if back != s || e != api.OK || back.Text() != s.Text() || !same(back.Going(), s.Going()) {
			t.Fatalf("P22.3: of %q: %v, %v", s.Text(), back, e)
		}
	}
}

// isNone: Parse lets no such text be.
func isNone(t *testing.T, text string) {
	t.Helper()
	if s, e := Parse(text); s != (Stats{}) || e != api.ErrForm {
		t.Errorf("P22.3: Parse of %q: %v, %v", text, s, e)
	}
}

// parts of a text that is one: of each there is one that may stand there.
var whole = strings.Fields("20 10 3 4 5 6 7 8 3fe0000000000000 3fd0000000000000")

// with answers the text with another part there.
func with(at int, part string) string {
	l := slices.Clone(whole)
	l[at] = part
	return strings.Join(l, " ")
}

func TestNoSuchText(t *testing.T) {
	if _, e := Parse(strings.Join(whole, " ")); e != api.OK {
		t.Fatalf("P22.3: %q: %v", whole, e)
	}
	for at := range whole {
		isNone(t, strings.Join(slices.Delete(slices.Clone(whole), at, at+1), " "))
		isNone(t, with(at, ""))
		for _, more := range []string{"0", "1", "none", "3fe0000000000000", ""} {
			isNone(t, strings.Join(slices.Insert(slices.Clone(whole), at, more), " "))
		}
		for _, part := range []string{" " + whole[at], whole[at] + " ", whole[at] + "\n", "\t" + whole[at], "-1", "x", "1.5", "0x1", "１"} {
			isNone(t, with(at, part))
		}
		for cut := range whole[at] {
			if at != 0 && at != 1 && at < 8 && cut > 0 {
				continue // what is left is a number
			}
			isNone(t, with(at, whole[at][:cut]))
		}
	}
	isNone(t, strings.Join(whole, " ")+" 0")
	isNone(t, strings.Join(whole, " ")+" ")
	isNone(t, " "+strings.Join(whole, " "))
	for _, blank := range []string{"", "  ", "\t", "\n", ",", "\u00a0", "\x00"} {
		isNone(t, strings.Join(whole, blank))
		for at := range len(whole) - 1 {
			isNone(t, strings.Join(whole[:at+1], " ")+blank+strings.Join(whole[at+1:], " "))
		}
	}
	for _, text := range []string{"", " ", "         ", "none", "0", strings.Repeat("0 ", 9), strings.Repeat(" ", 1000), strings.Repeat("0 ", 1000), "\xff"} {
		isNone(t, text)
	}
}

func TestCountsThatAreNone(t *testing.T) {
	for at := range 8 {
		for _, part := range []string{
			"+" + whole[at], "-" + whole[at], "0" + whole[at], "00", "-0", "+0", "1_0", "1e1", "0b1", "0o7", "ff", "٣",
			"18446744073709551616", "18446744073709551617", "99999999999999999999", "018446744073709551615", strings.Repeat("9", 400),
		} {
			isNone(t, with(at, part))
		}
	}
	for at := 2; at < 8; at++ { // those by which no rate goes
		for _, n := range []uint64{0, most - 1, most, 1 << 63, 1<<63 - 1} {
			text := with(at, strconv.FormatUint(n, 10))
			if s, e := Parse(text); e != api.OK || s.Count(at) != n || s.Text() != text {
				t.Errorf("P22.3: %q: %v, %v", text, s, e)
			}
		}
	}
}

// The rate is the counts' own, and nothing else.
func TestRatesThatAreNone(t *testing.T) {
	for _, rate := range []string{
		"3fe0000000000001", "3fdfffffffffffff", "none", "all", "-all", "0000000000000000", "8000000000000000", "bfe0000000000000",
		"3ff0000000000000", "3FE0000000000000", "03fe000000000000", "3fe00000000000000", "7ff8000000000001", "0.5", "None",
	} {
		isNone(t, with(8, rate))
	}
	for counts, rates := range map[string][]string{
		"0 0": {"0000000000000000", "7ff8000000000001", "all", "NaN", "3ff0000000000000", ""},
		"0 1": {"none", "7ff0000000000000", "-all", "ALL", "Inf", "0000000000000000"},
		"1 0": {"8000000000000000", "none", "all", "0"},
		"2 1": {"4000000000000000"},
	} {
		for _, rate := range rates {
			isNone(t, counts+" 0 0 0 0 0 0 "+rate+" 0000000000000000")
		}
	}
}

func TestGoingRatesThatAreNone(t *testing.T) {
	for _, rate := range []float64{
		-1, -0.5, -math.SmallestNonzeroFloat64, math.Copysign(0, -1), math.Nextafter(1, 2), 1.5, 2, math.MaxFloat64, -math.MaxFloat64,
		math.NaN(), math.Inf(1), math.Inf(-1),
	} {
		isNone(t, with(9, chance.Text(rate)))
	}
	for _, rate := range []string{"7ff8000000000001", "7ff0000000000000", "fff0000000000000", "3FD0000000000000", "3fd000000000000", "0.25", "0", "1", "", "3fd00000000000000", "None"} {
		isNone(t, with(9, rate))
	}
	for _, rate := range []float64{0, math.SmallestNonzeroFloat64, 0.25, math.Nextafter(1, 0), 1} {
		if s, e := Parse(with(9, chance.Text(rate))); e != api.OK || !same(s.Going(), rate) {
			t.Errorf("P22.3: the going rate %v: %v, %v", rate, s, e)
		}
	}
}

// Whatever the text: what Parse lets be is that very text.
func TestAnyText(t *testing.T) {
	r := rand.New(rand.NewSource(5))
	let := 0
	for range 20000 {
		b := []byte(drawn(r).Text())
		for range r.Intn(3) {
			at := r.Intn(len(b))
			switch r.Intn(3) {
			case 0:
				b[at] = "0123456789abcdef +-"[r.Intn(19)]
			case 1:
				b = slices.Delete(b, at, at+1)
			case 2:
				b = slices.Insert(b, at, byte(r.Intn(256)))
			}
		}
		text := string(b)
		s, e := Parse(text)
		switch {
		case e == api.OK && s.Text() == text && s.Going() >= 0 && s.Going() <= 1:
			let++
		case e != api.ErrForm || s != (Stats{}):
			t.Fatalf("P22.3: Parse of %q: %v, %v", text, s, e)
		}
	}
	if let < 5000 {
		t.Errorf("P22.3: %d texts alone were let be", let)
	}
}

// What is answered is another one: what is added to it changes nothing else.
func TestShareNothing(t *testing.T) {
	s := of(1, 2, 3, 4, 5, 6, 7, 8)
	was := fmt.Sprint(s)
	b := s.And(s)
	b.Add(Puts, 1)
	c := s
	c.Asked(true, 1)
	if fmt.Sprint(s) != was {
		t.Errorf("P22.1: %v, not %s", s, was)
	}
}
