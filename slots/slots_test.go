package slots

import (
	"fmt"
	"math"
	"strings"
	"testing"

	"bandolier/api"
	"bandolier/flash"
	"bandolier/heads"
	"bandolier/medium"
)

const anchor = 7

var lengths = []int{0, 1, 39, 40, 41, 79, 80, 81, 600, 601, 639, 640}

// textOf answers n bytes, unlike from one name to another.
func textOf(name string, n int) string { return strings.Repeat(name+"\x00\xff.", n)[:n] }

// anchorOf answers a pool with an anchor of that many sectors.
func anchorOf(t *testing.T, sectors int) *flash.Pool {
	t.Helper()
	p := flash.New()
	if e := p.Add(anchor, sectors); e != api.OK {
		t.Fatalf("Add: %v", e)
	}
	return p
}

func mediumOf(t *testing.T, p *flash.Pool) *medium.Medium {
	t.Helper()
	m, e := medium.Of(p, anchor)
	if e != api.OK {
		t.Fatalf("Of: %v", e)
	}
	return m
}

// isDone does do, in which nothing is to fail.
func isDone(t *testing.T, why string, do func()) {
	t.Helper()
	if b, is := medium.Guard(do); is {
		t.Fatalf("%s: it failed: %v", why, b)
	}
}

// isBroken does do, which is to fail.
func isBroken(t *testing.T, why string, e api.Errno, do func()) {
	t.Helper()
	if b, is := medium.Guard(do); !is || b != (medium.Broken{Serial: anchor, Err: e}) {
		t.Errorf("%s: %v, %v, not %v", why, b, is, e)
	}
}

// opened opens the anchor, where nothing is to fail.
func opened(t *testing.T, p *flash.Pool) (s *Slots, text string, is bool) {
	t.Helper()
	isDone(t, "Open", func() { s, text, is = Open(mediumOf(t, p)) })
	if s == nil {
		t.Fatalf("P9.1: Open answers no Slots")
	}
	if is != (s.Seq() > 0) || !is && text != "" {
		t.Errorf("P9.1: Open: %q, %v, of Seq %d", text, is, s.Seq())
	}
	return s, text, is
}

func written(t *testing.T, s *Slots, text string) {
	t.Helper()
	isDone(t, "Write", func() {
		if e := s.Write(text); e != api.OK {
			t.Errorf("P9.1: Write of %d bytes: %v", len(text), e)
		}
	})
}

// isFound asks for the text, and its Seq, that Open finds.
func isFound(t *testing.T, why string, p *flash.Pool, text string, seq uint64) *Slots {
	t.Helper()
	s, got, is := opened(t, p)
	if got != text || is != (seq > 0) || s.Seq() != seq {
		t.Errorf("%s: Open finds %q of Seq %d, %v, not %q of Seq %d", why, got, s.Seq(), is, text, seq)
	}
	return s
}

// bytesOf answers all bytes that lie on the anchor.
func bytesOf(t *testing.T, p *flash.Pool) (all string) {
	t.Helper()
	isDone(t, "Read", func() { all = mediumOf(t, p).Read(0, p.Size(anchor)) })
	return all
}

// mostOf answers the greatest Seq of any sector of both slots that is a Page.
func mostOf(t *testing.T, p *flash.Pool) (seq uint64) {
	t.Helper()
	all := bytesOf(t, p)
	for i := range 32 {
		if x, e := heads.ToPage(all[64*i : 64*i+64]); e == api.OK {
			seq = max(seq, x.Seq)
		}
	}
	return seq
}

// lay lays sectors on the anchor, and flushes them.
func lay(t *testing.T, p *flash.Pool, from int, sectors string) {
	t.Helper()
	isDone(t, "Write", func() {
		m := mediumOf(t, p)
		m.Write(from, sectors)
		m.Flush()
	})
}

// pageOf answers a sector that is a Page.
func pageOf(seq uint64, index, total int, data string) string {
	return heads.Page{Seq: seq, Index: index, Total: total, Data: data}.Pack()
}

// pagesBy answers a text's sectors, by the chapter's words.
func pagesBy(seq uint64, text string) string {
	var parts []string
	for len(text) > 40 {
		parts = append(parts, text[:40])
		text = text[40:]
	}
	parts = append(parts, text)
	var all string
	for i, x := range parts {
		all += pageOf(seq, i, len(parts), x)
	}
	return all
}

func pageCount(text string) int { return len(pagesBy(1, text)) / 64 }

func TestExample(t *testing.T) {
	p := anchorOf(t, 32)
	s, _, _ := opened(t, p)
	written(t, s, "a")
	written(t, s, "b")
	all := bytesOf(t, p)
	if all[:64] != pageOf(1, 0, 1, "a") || all[16*64:17*64] != pageOf(2, 0, 1, "b") {
		t.Errorf("P9.1: example 1: %x, %x", all[:64], all[16*64:17*64])
	}
	isFound(t, "P9.1: example 1", p, "b", 2)
}

func TestNothingThere(t *testing.T) {
	p := anchorOf(t, 32)
	isFound(t, "P9.1: an anchor with nothing on it", p, "", 0)
	lay(t, p, 0, textOf("noise", 32*64))
	s := isFound(t, "P9.1: an anchor with no Page on it", p, "", 0)
	written(t, s, "x")
	if s.Seq() != 1 || bytesOf(t, p)[:64] != pageOf(1, 0, 1, "x") {
		t.Errorf("P9.1: the first text goes into the first slot, with Seq 1: %d", s.Seq())
	}
}

func TestThereAndBack(t *testing.T) {
	for _, n := range lengths {
		for _, m := range lengths {
			a, b := textOf("a", n), textOf("b", m)
			p := anchorOf(t, 33)
			lay(t, p, 0, strings.Repeat("z", 33*64))
			want := bytesOf(t, p)
			s, _, _ := opened(t, p)
			written(t, s, a)
			want = pagesBy(1, a) + want[len(pagesBy(1, a)):]
			if bytesOf(t, p) != want || s.Seq() != 1 {
				t.Errorf("P9.1: %d bytes don't lie as their Pages in the first slot", n)
			}
			isFound(t, "P9.1: one slot is whole", p, a, 1)
			written(t, s, b)
			want = want[:16*64] + pagesBy(2, b) + want[16*64+len(pagesBy(2, b)):]
			if bytesOf(t, p) != want || s.Seq() != 2 {
				t.Errorf("P9.1: %d bytes don't lie as their Pages in the second slot", m)
			}
			isFound(t, "P9.1: both slots are whole", p, b, 2)
			p.Crash()
			isFound(t, "P9.1: it is flushed", p, b, 2)
		}
	}
}

func TestManyWrites(t *testing.T) {
	for _, anew := range []bool{false, true} {
		p := anchorOf(t, 40)
		s, _, _ := opened(t, p)
		for i := range 60 {
			text, seq := textOf(fmt.Sprint(i), lengths[i*7%len(lengths)]), uint64(i+1)
			written(t, s, text)
			if from := i % 2 * 16 * 64; !strings.HasPrefix(bytesOf(t, p)[from:], pagesBy(seq, text)) || s.Seq() != seq {
				t.Errorf("P9.1: text %d doesn't lie in the other slot, of Seq %d", i, s.Seq())
			}
			if got := isFound(t, "P9.1: text by text", p, text, seq); anew {
				s = got
			}
		}
	}
}

func TestOperations(t *testing.T) {
	p := anchorOf(t, 64)
	s, _, _ := opened(t, p)
	areAsFew(t, p, s)
	s, _, _ = opened(t, p)
	written(t, s, "the first one behind an Open may flush what lies there, too")
	areAsFew(t, p, s)
}

// areAsFew: a Write makes an operation a Page, and a flush.
func areAsFew(t *testing.T, p *flash.Pool, s *Slots) {
	t.Helper()
	for i, n := range lengths {
		text := textOf("t", n)
		before := p.Count()
		written(t, s, text)
		if done := p.Count() - before; done != pageCount(text)+1 || p.Loose(anchor) != 0 {
			t.Errorf("P9.1: Write %d of %d bytes: %d operations, %d sectors are loose", i, n, done, p.Loose(anchor))
		}
	}
}

func TestTooLong(t *testing.T) {
	p := anchorOf(t, 32)
	isNothing := func(s *Slots, text string) {
		t.Helper()
		all, seq, before := bytesOf(t, p), s.Seq(), p.Count()
		p.Arm(anchor, 0, false) // not even an operation that fails
		isDone(t, "P9.1: too long", func() {
			if e := s.Write(text); e != api.ErrSize {
				t.Errorf("P9.1: Write of %d bytes: %v", len(text), e)
			}
		})
		isBroken(t, "P9.1: too long", api.ErrIO, mediumOf(t, p).Flush)
		if p.Count() != before || s.Seq() != seq || bytesOf(t, p) != all {
			t.Errorf("P9.1: something is done of %d bytes", len(text))
		}
	}
	s, _, _ := opened(t, p)
	isNothing(s, textOf("x", 641))
	for i, text := range []string{"a", "b", textOf("c", 640)} {
		written(t, s, text)
		s = isFound(t, "P9.1: behind one that was too long", p, text, uint64(i+1))
		for _, n := range []int{641, 642, 680, 681, 1280, 1 << 20} {
			isNothing(s, textOf("x", n))
		}
	}
}

func TestSmallDevices(t *testing.T) {
	for _, n := range []int{1, 2, 15, 16, 17, 30, 31} {
		p := anchorOf(t, n)
		lay(t, p, 0, pageOf(1, 0, 1, "a"))
		isBroken(t, fmt.Sprintf("P9.1: Open of %d sectors", n), api.ErrRange, func() { Open(mediumOf(t, p)) })
	}
}

func TestGreatDevices(t *testing.T) {
	for _, n := range []int{32, 33, 48, 4096} {
		p := anchorOf(t, n)
		for i := 32; i < min(n, 64); i++ {
			lay(t, p, i, pageOf(1000, i%16, 16, textOf("x", 40)))
		}
		behind := bytesOf(t, p)[32*64:]
		s := isFound(t, "P9.1: what is behind the slots isn't theirs", p, "", 0)
		for i := range 4 {
			written(t, s, textOf("a", 640))
			isFound(t, "P9.1: what is behind the slots isn't theirs", p, textOf("a", 640), uint64(i+1))
		}
		if bytesOf(t, p)[32*64:] != behind {
			t.Errorf("P9.1: of %d sectors those behind the slots have changed", n)
		}
	}
}

func TestAllAreRead(t *testing.T) {
	for texts := range 3 {
		p := anchorOf(t, 40)
		s, _, _ := opened(t, p)
		for i := range texts {
			written(t, s, textOf(fmt.Sprint(i), 300*i))
		}
		isDone(t, "Write", func() { mediumOf(t, p).Write(31, "loose") })
		all, before := bytesOf(t, p), p.Count()
		opened(t, p)
		if p.Count()-before != 32 {
			t.Errorf("P9.1: of %d texts Open makes %d operations", texts, p.Count()-before)
		}
		if p.Loose(anchor) != 1 || bytesOf(t, p) != all {
			t.Errorf("P9.1: Open changes what lies there")
		}
		for i := range 32 {
			for _, done := range []bool{false, true} {
				p.Arm(anchor, i, done)
				isBroken(t, "P9.1: a read that fails comes up", api.ErrIO, func() { Open(mediumOf(t, p)) })
			}
		}
	}
}

func TestFailuresComeUp(t *testing.T) {
	p := anchorOf(t, 32)
	s, _, _ := opened(t, p)
	m := mediumOf(t, p)
	p.Halt(0)
	isBroken(t, "P9.1: Open while the pool is down", api.ErrDown, func() { Open(m) })
	isBroken(t, "P9.1: Write while the pool is down", api.ErrDown, func() { s.Write("a") })
	p.Crash()
	isBroken(t, "P9.1: Open of another session", api.ErrGone, func() { Open(m) })
	s, _, _ = opened(t, p)
	p.Detach(anchor)
	isBroken(t, "P9.1: Write to what isn't there", api.ErrGone, func() { s.Write("a") })
}

// Of both slots that are whole the greater Seq counts, wherever it lies, and
// the next text goes into the other one.
func TestBothWhole(t *testing.T) {
	seqs := []uint64{1, 2, 9, 255, 256, 1 << 32, 1<<63 - 2, 1<<63 - 1}
	for _, a := range seqs {
		for _, b := range seqs {
			if a == b {
				continue
			}
			p := anchorOf(t, 32)
			lay(t, p, 0, pagesBy(a, textOf("first", 90)))
			lay(t, p, 16, pagesBy(b, textOf("second", 50)))
			text, to := textOf("first", 90), 16
			if b > a {
				text, to = textOf("second", 50), 0
			}
			s := isFound(t, "P9.1: of both the greater Seq", p, text, max(a, b))
			written(t, s, "next")
			if got := bytesOf(t, p)[to*64:][:64]; got != pageOf(max(a, b)+1, 0, 1, "next") {
				t.Errorf("P9.1: Seqs %d, %d: the next one isn't in sector %d", a, b, to)
			}
			isFound(t, "P9.1: the next one", p, "next", max(a, b)+1)
		}
	}
}

func TestOneWhole(t *testing.T) {
	for _, slot := range []int{0, 1} {
		for _, n := range lengths {
			p := anchorOf(t, 32)
			lay(t, p, 16*slot, pagesBy(5, textOf("t", n)))
			s := isFound(t, "P9.1: one slot is whole", p, textOf("t", n), 5)
			written(t, s, "next")
			if got := bytesOf(t, p)[16*(1-slot)*64:][:64]; got != pageOf(6, 0, 1, "next") {
				t.Errorf("P9.1: the next one isn't in the other slot than %d", slot)
			}
			if got := bytesOf(t, p)[16*slot*64:]; !strings.HasPrefix(got, pagesBy(5, textOf("t", n))) {
				t.Errorf("P9.1: the slot of its text has changed")
			}
		}
	}
}

func TestShorterBehindLonger(t *testing.T) {
	p := anchorOf(t, 32)
	s, _, _ := opened(t, p)
	for i := len(lengths) - 1; i >= 0; i-- {
		a, b := textOf("a", lengths[i]), textOf("b", lengths[i])
		seq := s.Seq()
		written(t, s, a)
		isFound(t, "P9.1: a shorter text in the first slot", p, a, seq+1)
		written(t, s, b)
		isFound(t, "P9.1: a shorter text in the second slot", p, b, seq+2)
	}
}

// A Page that lies behind a slot's text may have the greatest Seq of all: it
// says nothing of the texts, but the next Seq is greater.
func TestPagesBehindTheText(t *testing.T) {
	for i := range 32 {
		if i%16 == 0 {
			continue
		}
		for _, seq := range []uint64{3, 4, 77, 1<<63 - 1} {
			p := anchorOf(t, 32)
			s, _, _ := opened(t, p)
			written(t, s, "a")
			written(t, s, "b")
			lay(t, p, i, pageOf(seq, i%16, 16, textOf("old", 40)))
			s = isFound(t, "P9.2: a Page behind the text", p, "b", 2)
			next := textOf("next", 100)
			written(t, s, next)
			if s.Seq() != seq+1 || !strings.HasPrefix(bytesOf(t, p), pagesBy(seq+1, next)) {
				t.Errorf("P9.2: a Page of Seq %d in sector %d: the next Seq is %d", seq, i, s.Seq())
			}
			isFound(t, "P9.2: behind that", p, next, seq+1)
			written(t, s, "more")
			isFound(t, "P9.2: behind that", p, "more", seq+2)
		}
	}
}

// notWhole: what may lie in a slot, and is no text's Pages. The greatest Seq
// is 9.
func notWhole() map[string]string {
	full, none := textOf("f", 40), strings.Repeat("\x00", 64)
	three := pagesBy(9, textOf("t", 100))
	changed := []byte(three)
	changed[70] ^= 1
	return map[string]string{
		"two Seqs, the later one last":        pageOf(8, 0, 2, full) + pageOf(9, 1, 2, "x"),
		"two Seqs, the later one first":       pageOf(9, 0, 2, full) + pageOf(8, 1, 2, "x"),
		"another Seq in the middle":           three[:64] + pagesBy(8, textOf("t", 100))[64:128] + three[128:],
		"the last one is wanting":             three[:128] + none,
		"the middle one is wanting":           three[:64] + none + three[128:],
		"the first one is wanting":            none + three[64:],
		"another order":                       three[:64] + three[128:] + three[64:128],
		"the last one first":                  three[128:] + three[64:128] + three[:64],
		"twice the same":                      three[:64] + three[:64] + three[128:],
		"one sector further on":               none + three,
		"behind another kind":                 heads.Head{Cache: 1, Join: 1, Number: 1}.Pack() + three,
		"another kind in the middle":          three[:64] + heads.Head{Cache: 9, Join: 9, Number: 9}.Pack() + three[128:],
		"a Total that is unlike":              pageOf(9, 0, 2, full) + pageOf(9, 1, 3, "x"),
		"a Total that is greater":             pageOf(9, 0, 3, full) + pageOf(9, 1, 2, "x"),
		"a byte that is another one":          string(changed),
		"two Pages where one would do":        pageOf(9, 0, 2, full[:39]) + pageOf(9, 1, 2, "x"),
		"two empty Pages":                     pageOf(9, 0, 2, "") + pageOf(9, 1, 2, ""),
		"an empty Page behind a full one":     pageOf(9, 0, 2, full) + pageOf(9, 1, 2, ""),
		"a Page that isn't full, not at last": pageOf(9, 0, 3, full) + pageOf(9, 1, 3, full[:39]) + pageOf(9, 2, 3, full),
		"fifteen of sixteen":                  pagesBy(9, textOf("s", 640))[:15*64] + none,
		"all but the first of sixteen":        pageOf(8, 0, 1, "")[:60] + "wron" + pagesBy(9, textOf("s", 640))[64:],
	}
}

func TestNotWhole(t *testing.T) {
	for what, sectors := range notWhole() {
		for _, slot := range []int{0, 1} {
			p := anchorOf(t, 32)
			lay(t, p, 16*slot, sectors)
			s := isFound(t, "P9.1: not whole: "+what, p, "", 0)
			written(t, s, "next")
			if s.Seq() != 10 || bytesOf(t, p)[:64] != pageOf(10, 0, 1, "next") {
				t.Errorf("P9.1: %s: the next one, of Seq %d, isn't in the first slot", what, s.Seq())
			}
			isFound(t, "P9.1: behind what wasn't whole: "+what, p, "next", 10)

			p = anchorOf(t, 32)
			lay(t, p, 16*slot, sectors)
			lay(t, p, 16*(1-slot), pageOf(2, 0, 1, "whole"))
			s = isFound(t, "P9.2: the other slot isn't whole: "+what, p, "whole", 2)
			written(t, s, "next")
			if s.Seq() != 10 || bytesOf(t, p)[16*slot*64:][:64] != pageOf(10, 0, 1, "next") {
				t.Errorf("P9.1: %s: the next one, of Seq %d, isn't in that slot", what, s.Seq())
			}
			isFound(t, "P9.2: behind what wasn't whole: "+what, p, "next", 10)
		}
	}
}

// A text's Pages that go on into the other slot are none: each slot is by
// itself.
func TestSlotsAreApart(t *testing.T) {
	p := anchorOf(t, 32)
	lay(t, p, 8, pagesBy(4, textOf("t", 640)))
	s := isFound(t, "P9.1: Pages over both slots", p, "", 0)
	written(t, s, "a")
	isFound(t, "P9.1: Pages over both slots", p, "a", 5)
}

func TestAnyBytes(t *testing.T) {
	p := anchorOf(t, 32)
	lay(t, p, 3, pageOf(math.MaxUint64, 0, 1, "x")) // beyond what is promised, but nothing panics
	s, _, _ := opened(t, p)
	isDone(t, "P1", func() { s.Write("y"); s.Write(""); Open(mediumOf(t, p)) })
}
