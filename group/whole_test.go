package group

import (
	"fmt"
	"math/rand"
	"slices"
	"testing"

	"bandolier/flash"
	"bandolier/medium"
)

// A breach is how an Append is broken off: by a failure of the operation behind
// after further ones (done or not), or by a halt there, and a crash.
type breach struct {
	after      int
	done, halt bool
}

func breachesAt(after int) []breach {
	return []breach{{after, false, false}, {after, true, false}, {after, false, true}}
}

// appends appends while the pool fails by b: was it broken off?
func (b breach) appends(p *flash.Pool, s *Seg, payload string) bool {
	if b.halt {
		p.Halt(b.after)
	} else {
		p.Arm(device, b.after, b.done)
	}
	_, is := medium.Guard(func() { s.Append(payload) })
	if !is { // what didn't strike isn't to strike what comes behind
		p.Halt(-1)
		p.Arm(device, 1<<40, false)
	}
	return is
}

// stays answers what may stay of n loose sectors.
func stays(n int) [][]int {
	var l [][]int
	for mask := range 1 << n {
		x := make([]int, n)
		for i := range x {
			x[i] = mask >> i & 1
		}
		l = append(l, x)
	}
	return l
}

// payloads of what was found.
func payloads(l []found) []string {
	var all []string
	for _, x := range l {
		all = append(all, x.payload)
	}
	return all
}

// A course is a segment to which things were appended.
type course struct {
	t     *testing.T
	p     *flash.Pool
	per   int
	ended []string // what was appended for sure, or was found and is sure by now
	what  string
}

// newCourse: a segment in which another one's groups lie, with some groups.
func newCourse(t *testing.T, per int, ended ...string) *course {
	t.Helper()
	c := &course{t: t, p: newPool(t), per: per, ended: ended}
	elder := segOf(t, c.p, per)
	elder.Number--
	s := segOf(t, c.p, per)
	goesWell(t, "P11.2", func() {
		for elder.Scan(); elder.Room(1); {
			elder.Append(text('e', 1))
		}
		s.Scan()
		for _, x := range ended {
			s.Append(x)
		}
	})
	return c
}

// isWhole looks: what ended is found, and at most one of the broken ones.
func (c *course) isWhole(broken ...string) {
	c.t.Helper()
	l, at := look(c.t, c.p, c.per)
	got := payloads(l)
	ok := len(got) >= len(c.ended) && slices.Equal(got[:len(c.ended)], c.ended)
	if ok && len(got) > len(c.ended) {
		ok = len(got) == len(c.ended)+1 && slices.Contains(broken, got[len(c.ended)])
	}
	end := 1
	for i, x := range l {
		ok = ok && x.at == end
		end += 1 + len(got[i])/63
	}
	if !ok || at != end {
		c.t.Fatalf("P11.2: %s: found %d groups, next at %d; %d ended (broken off: %d)", c.what, len(got), at, len(c.ended), len(broken))
	}
}

// goesOn: behind a Scan a group is appended, and all is there.
func (c *course) goesOn() {
	c.t.Helper()
	l, _ := look(c.t, c.p, c.per)
	want := append(payloads(l), text('!', 1))
	s := segOf(c.t, c.p, c.per)
	goesWell(c.t, "P11.2: "+c.what, func() { s.Scan(); s.Append(want[len(want)-1]) })
	areFound(c.t, "P11.2: "+c.what+": and on", c.p, c.per, want...)
	c.p.Crash()
	areFound(c.t, "P11.2: "+c.what+": and on, and crashed", c.p, c.per, want...)
}

// An Append is broken off at each operation, whatever stays.
func TestBrokenOnce(t *testing.T) {
	for _, per := range []int{13, 64} {
		for _, ended := range [][]string{nil, {text('a', 1)}, {text('a', 2), text('b', 1)}} {
			for n := 1; n <= 4; n++ {
				brokenOnce(t, per, ended, text('x', n))
			}
		}
	}
}

func brokenOnce(t *testing.T, per int, ended []string, x string) {
	ops := len(x)/63 + 3
	for after := range ops {
		for _, b := range breachesAt(after) {
			for _, choice := range stays(len(x) / 63) {
				c := newCourse(t, per, ended...)
				c.what = fmt.Sprint(len(ended), " ended, ", len(x)/63, " sectors, ", b, ", stays ", choice)
				s := segOf(t, c.p, per)
				goesWell(t, "P11.2", func() { s.Scan() })
				at := s.At
				if !b.appends(c.p, s, x) {
					t.Fatalf("P11.2: %s: it has less than %d operations", c.what, ops)
				}
				if s.At != at {
					t.Errorf("P11.2: %s: the next one at %d, not %d", c.what, s.At, at)
				}
				if !b.halt {
					c.isWhole(x)
				}
				if loose := c.p.Loose(device); loose < len(choice) && slices.Contains(choice[loose:], 1) {
					continue // the same as another choice
				}
				c.p.Crash(choice...)
				c.isWhole(x)
				if after < len(x)/63+1 {
					c.isWhole() // no Commit was written
				}
				c.goesOn()
			}
		}
	}
}

// Without a crash what was broken off is built upon, and goes on.
func TestFailedAndOn(t *testing.T) {
	for after := range 5 {
		for _, done := range []bool{false, true} {
			c := newCourse(t, 16, text('a', 1))
			c.what = fmt.Sprint("failed at ", after, done)
			s := segOf(t, c.p, 16)
			goesWell(t, "P11.2", func() { s.Scan() })
			breach{after, done, false}.appends(c.p, s, text('x', 2))
			c.isWhole(text('x', 2))
			c.goesOn()
		}
	}
}

// Two Appends are broken off, one behind the other; a Scan in between, or the
// same Seg goes on.
func TestBrokenTwice(t *testing.T) {
	x := text('x', 2)
	for _, y := range []string{text('y', 1), text('y', 2), text('y', 3), x[:63], x, x + x[:63], x[63:]} {
		for after := range 5 {
			for _, b := range breachesAt(after) {
				for again := range len(y)/63 + 3 {
					for _, d := range breachesAt(again) {
						for _, choice := range stays(4) {
							for _, scans := range []bool{false, true} {
								brokenTwice(t, x, y, b, d, choice, scans)
							}
						}
					}
				}
			}
		}
	}
}

func brokenTwice(t *testing.T, x, y string, b, d breach, choice []int, scans bool) {
	c := newCourse(t, 12, text('a', 1))
	c.what = fmt.Sprint(len(y)/63, " sectors, ", b, d, ", stays ", choice, ", scans: ", scans)
	s := segOf(t, c.p, 12)
	goesWell(t, "P11.2", func() { s.Scan() })
	b.appends(c.p, s, x)
	if b.halt {
		c.p.Crash(choice[0], choice[1], choice[2])
		s.M = mediumOf(t, c.p)
	}
	c.isWhole(x)
	before := len(c.ended)
	if scans {
		goesWell(t, "P11.2", func() { s.Scan() })
		l, _ := look(t, c.p, c.per)
		c.ended = payloads(l) // sure as soon as the next one's Commit is written
	}
	if !d.appends(c.p, s, y) {
		t.Fatalf("P11.2: %s: the second one ended", c.what)
	}
	if !d.halt {
		c.isWhole(x, y)
	}
	c.p.Crash(choice...)
	if l, _ := look(t, c.p, c.per); scans && len(l) == before {
		c.ended = c.ended[:before] // the first one, which never ended, is lost yet
	}
	c.isWhole(x, y)
	c.goesOn()
}

// Random courses: many Appends, most of them broken off; Scans, or not.
func TestRandomCourses(t *testing.T) {
	r := rand.New(rand.NewSource(11))
	for range 3000 {
		per := 8 + r.Intn(57)
		c := newCourse(t, per)
		s := segOf(t, c.p, per)
		goesWell(t, "P11.2", func() { s.Scan() })
		var broken []string // at the place of the next group
		for step := range 12 {
			x := text(byte(step*16+r.Intn(16)), 1+r.Intn(4))
			if !s.Room(len(x) / 63) {
				break
			}
			b := breach{r.Intn(10), r.Intn(2) == 0, r.Intn(2) == 0}
			c.what += fmt.Sprint(" ", len(x)/63, b)
			is := b.appends(c.p, s, x)
			if is {
				broken = append(broken, x)
			} else {
				c.ended, broken = append(c.ended, x), nil
			}
			if is && (b.halt || r.Intn(3) == 0) {
				c.p.Crash(r.Perm(8)...)
				s.M = mediumOf(t, c.p)
			}
			c.isWhole(broken...)
			if r.Intn(2) == 0 { // as if it were opened anew, by one that flushes first
				goesWell(t, "P11.2", func() { s.M.Flush(); s.Scan() })
				l, _ := look(t, c.p, per)
				c.ended, broken = payloads(l), nil
			}
		}
		c.isWhole(broken...)
		c.p.Crash()
		c.isWhole(broken...)
	}
}
