package slots

import (
	"fmt"
	"math/rand"
	"slices"
	"testing"

	"bandolier/api"
	"bandolier/flash"
	"bandolier/medium"
)

// A breach is how a Write is broken off: by a failure of the operation behind
// after further ones (done or not), or by a halt there.
type breach struct {
	after      int
	done, halt bool
}

func breachesAt(after int) []breach {
	return []breach{{after, false, false}, {after, true, false}, {after, false, true}}
}

// set lets the pool fail by it.
func (b breach) set(p *flash.Pool) {
	if b.halt {
		p.Halt(b.after)
	} else {
		p.Arm(anchor, b.after, b.done)
	}
}

// writes writes text while the pool fails by b: was it broken off?
func (b breach) writes(t *testing.T, p *flash.Pool, s *Slots, text string) bool {
	t.Helper()
	b.set(p)
	ended := false
	told, is := medium.Guard(func() { ended = s.Write(text) == api.OK })
	if is == ended {
		t.Errorf("P9.2: %v: it ended: %v, it failed: %v", b, ended, told)
	}
	if !is { // what didn't strike isn't to strike what comes behind
		p.Halt(-1)
		p.Arm(anchor, 1<<40, false)
	}
	return is
}

// choicesOf answers what may stay of n loose sectors: all there is of few, of
// many some.
func choicesOf(n int) [][]int {
	var all [][]int
	if n <= 4 {
		for mask := range 1 << n {
			l := make([]int, n)
			for i := range l {
				l[i] = mask >> i & 1
			}
			all = append(all, l)
		}
		return all
	}
	for cut := range n + 1 { // those ahead of it, those behind it, all but it
		ahead, behind, but := make([]int, n), make([]int, n), make([]int, n)
		for i := range n {
			if i < cut {
				ahead[i] = 1
			} else {
				behind[i] = 1
			}
			if i != cut {
				but[i] = 1
			}
		}
		all = append(all, ahead, behind, but)
	}
	return all
}

// isOneOf opens the anchor, which must have one of these texts.
func isOneOf(t *testing.T, why string, p *flash.Pool, texts ...string) *Slots {
	t.Helper()
	s, text, is := opened(t, p)
	if !is || !slices.Contains(texts, text) {
		t.Fatalf("P9.2: %s: Open finds %.20q, %v, none of %.20q", why, text, is, texts)
	}
	return s
}

// goesOn writes and opens once more, where nothing fails: the next Seq must
// be greater than all that lie there.
func goesOn(t *testing.T, why string, p *flash.Pool, s *Slots) {
	t.Helper()
	before := mostOf(t, p)
	for i, text := range []string{textOf("behind", 130), "more"} {
		written(t, s, text)
		if s.Seq() != before+uint64(i)+1 {
			t.Errorf("P9.2: %s: the greatest Seq was %d, the next but %d is %d", why, before, i, s.Seq())
		}
		p.Crash()
		s = isOneOf(t, why+", and one that ended well", p, text)
	}
}

// eldersOf answers what two Writes left, that ended well.
func eldersOf(t *testing.T, elder, old string) (*flash.Pool, *Slots) {
	t.Helper()
	p := anchorOf(t, 32)
	s, _, _ := opened(t, p)
	written(t, s, elder)
	written(t, s, old)
	return p, s
}

// A Write, broken off at each of its operations; whatever stays.
func TestBrokenOff(t *testing.T) {
	for _, n := range []int{0, 1, 40, 41, 90, 150, 640} {
		for _, m := range []int{0, 41, 100, 640} {
			elder, old, next := textOf("elder", n), textOf("old", m), textOf("next", n)
			for after := range pageCount(next) + 2 {
				for _, b := range breachesAt(after) {
					brokenOff(t, b, elder, old, next)
				}
			}
		}
	}
}

func brokenOff(t *testing.T, b breach, elder, old, next string) {
	t.Helper()
	why := fmt.Sprint(b, " of ", len(next), " bytes over ", len(old))
	again := func() (*flash.Pool, []string) {
		p, s := eldersOf(t, elder, old)
		broken := b.writes(t, p, s, next)
		if broken != (b.after <= pageCount(next)) {
			t.Errorf("P9.1: %s: it is broken off: %v", why, broken)
		}
		if broken {
			return p, []string{old, next}
		}
		return p, []string{next}
	}
	p, lets := again()
	loose := p.Loose(anchor)
	if !b.halt {
		goesOn(t, why+", no crash", p, isOneOf(t, why+", no crash", p, lets...))
	}
	for _, choice := range choicesOf(loose) {
		p, lets := again()
		p.Crash(choice...)
		s := isOneOf(t, why+", a crash", p, lets...)
		if allStay := !slices.Contains(choice, 0); b.after >= pageCount(next) && allStay && s.Seq() != 3 {
			t.Errorf("P9.2: %s: all of it stayed, but it isn't found", why)
		}
		goesOn(t, why+", a crash", p, s)
	}
}

// The first text of all, broken off: it is found, or nothing.
func TestFirstBrokenOff(t *testing.T) {
	for _, n := range []int{0, 100} {
		text := textOf("first", n)
		for after := range pageCount(text) + 1 {
			for _, b := range breachesAt(after) {
				for _, choice := range choicesOf(pageCount(text)) {
					p := anchorOf(t, 32)
					s, _, _ := opened(t, p)
					b.writes(t, p, s, text)
					p.Crash(choice...)
					s, got, is := opened(t, p)
					if is && got != text {
						t.Errorf("P9.2: %v: Open finds %q", b, got)
					}
					goesOn(t, fmt.Sprint(b, " of the first text"), p, s)
				}
			}
		}
	}
}

// A text that was all written, but whose flush failed, is found; a crash in
// the midst of the next Write takes neither it nor what is elder.
func TestFlushThatFailed(t *testing.T) {
	for _, n := range []int{1, 41, 100, 640} {
		old, loose, next := textOf("old", n), textOf("loose", n), textOf("next", n)
		for after := range 2*pageCount(next) + 4 {
			for _, choice := range choicesOf(2 * pageCount(next)) {
				p, s := eldersOf(t, "elder", old)
				breach{after: pageCount(loose)}.writes(t, p, s, loose)
				s = isOneOf(t, "the flush failed", p, loose)
				lets := []string{next}
				if (breach{after: after, halt: true}).writes(t, p, s, next) {
					lets = append(lets, loose, old)
				}
				p.Crash(choice...)
				s = isOneOf(t, fmt.Sprint("the flush failed, and a halt behind ", after, " operations, of ", choice), p, lets...)
				goesOn(t, "the flush failed, and a halt", p, s)
			}
		}
	}
}

// Two Writes, one behind the other, each broken off in each way, with a crash
// between them or without.
func TestTwiceBrokenOff(t *testing.T) {
	old, one, two := textOf("old", 60), textOf("one", 70), textOf("two", 80)
	for after := range 3 {
		for _, b := range breachesAt(after) {
			crashes := choicesOf(2)
			if !b.halt {
				crashes = append(crashes, nil) // no crash
			}
			for _, between := range crashes {
				for after := range 5 {
					for _, c := range breachesAt(after) {
						for _, last := range choicesOf(4) {
							twiceBrokenOff(t, b, c, between, last, old, one, two)
						}
					}
				}
			}
		}
	}
}

func twiceBrokenOff(t *testing.T, b, c breach, between, last []int, old, one, two string) {
	t.Helper()
	why := fmt.Sprint(b, between, c, last)
	p, s := eldersOf(t, textOf("elder", 90), old)
	b.writes(t, p, s, one)
	if between != nil {
		p.Crash(between...)
	}
	s = isOneOf(t, why, p, old, one)
	lets := []string{two}
	if c.writes(t, p, s, two) {
		lets = append(lets, old, one)
	}
	p.Crash(last...)
	s = isOneOf(t, why, p, lets...)
	goesOn(t, why, p, s)
}

// Whatever comes, many times one behind the other: a text is found that the
// last Write that ended well put, or a later one.
func TestAnyCourse(t *testing.T) {
	for seed := range int64(400) {
		r := rand.New(rand.NewSource(seed))
		p := anchorOf(t, 32+r.Intn(3))
		var lets []string // none: no Write ended well so far
		var loose []string
		for i := range 60 {
			s := foundOf(t, fmt.Sprint("course ", seed, " at ", i), p, lets, loose)
			most := mostOf(t, p)
			text := textOf(fmt.Sprint("t", i), lengths[r.Intn(len(lengths))])
			if r.Intn(2) == 0 {
				text = textOf(fmt.Sprint("t", i), r.Intn(170))
			}
			b := breach{r.Intn(pageCount(text) + 3), r.Intn(2) == 0, r.Intn(2) == 0}
			if b.writes(t, p, s, text) {
				loose = append(loose, text)
			} else {
				lets, loose = []string{text}, nil
				if s.Seq() != most+1 {
					t.Errorf("P9.2: course %d at %d: Seq %d behind %d", seed, i, s.Seq(), most)
				}
			}
			settle(p, r, b.halt)
		}
	}
}

// foundOf opens the anchor: a text of lets, or a later one of loose, is found.
func foundOf(t *testing.T, why string, p *flash.Pool, lets, loose []string) *Slots {
	t.Helper()
	if len(lets) > 0 {
		return isOneOf(t, why, p, slices.Concat(lets, loose)...)
	}
	s, text, is := opened(t, p)
	if is && !slices.Contains(loose, text) {
		t.Fatalf("P9.2: %s: Open finds %.20q, none of %.20q", why, text, loose)
	}
	return s
}

// settle lets the anchor crash, or go and come, or stay as it is.
func settle(p *flash.Pool, r *rand.Rand, crash bool) {
	choice := make([]int, r.Intn(34))
	odds := r.Intn(5) // how much stays hangs on the course
	for i := range choice {
		if r.Intn(4) < odds {
			choice[i] = 1
		}
	}
	switch {
	case crash, r.Intn(3) == 0:
		p.Crash(choice...)
	case r.Intn(2) == 0:
		p.Detach(anchor, choice...)
		p.Attach(anchor)
	}
}
