package flash

import (
	"math"
	"slices"
	"testing"

	"bandolier/api"
)

// flushes answers what so many Flushes answer.
func flushes(p *Pool, h Handle, n int) []api.Errno {
	var got []api.Errno
	for range n {
		got = append(got, p.Flush(h))
	}
	return got
}

// oneAt answers n times OK, but at one place e.
func oneAt(n, at int, e api.Errno) []api.Errno {
	l := make([]api.Errno, n)
	l[at] = e
	return l
}

func TestArmAfter(t *testing.T) {
	for _, c := range []struct{ after, at int }{{math.MinInt, 0}, {-1, 0}, {0, 0}, {1, 1}, {2, 2}, {5, 5}} {
		for _, done := range []bool{false, true} {
			p := poolOf(t, 1)
			h := open(t, p, 1)
			if e := p.Arm(1, c.after, done); e != api.OK {
				t.Errorf("P5.1: Arm: %v", e)
			}
			if got := flushes(p, h, 8); !slices.Equal(got, oneAt(8, c.at, api.ErrIO)) {
				t.Errorf("P5.1: Arm(1, %d, %v): %v", c.after, done, got)
			}
			if p.Count() != 7 {
				t.Errorf("P5.1: an armed one isn't counted: %d", p.Count())
			}
		}
	}
	p := poolOf(t, 1)
	p.Arm(1, math.MaxInt, true)
	if got := flushes(p, open(t, p, 1), 8); !slices.Equal(got, make([]api.Errno, 8)) {
		t.Errorf("P5.1: armed far ahead: %v", got)
	}
}

func TestArmDone(t *testing.T) {
	for _, done := range []bool{false, true} {
		p := poolOf(t, 1)
		h := open(t, p, 1)
		write(t, p, h, 0, as)

		p.Arm(1, 0, done)
		if s, e := p.Read(h, 0); s != "" || e != api.ErrIO {
			t.Errorf("P5.1: an armed Read: %q, %v", s, e)
		}
		p.Arm(1, 0, done)
		if e := p.Write(h, 1, bs); e != api.ErrIO {
			t.Errorf("P5.1: an armed Write: %v", e)
		}
		loose, second := 1, zeros
		if done {
			loose, second = 2, bs
		}
		if p.Loose(1) != loose {
			t.Errorf("P5.1: an armed Write, done %v: %d loose", done, p.Loose(1))
		}
		isRead(t, "P5.1: an armed Write", p, 1, as, second)

		p.Arm(1, 0, done)
		if e := p.Flush(h); e != api.ErrIO {
			t.Errorf("P5.1: an armed Flush: %v", e)
		}
		if done {
			loose = 0
		}
		if p.Loose(1) != loose {
			t.Errorf("P5.1: an armed Flush, done %v: %d loose", done, p.Loose(1))
		}
		p.Crash()
		if done {
			isRead(t, "P5.2: an armed Flush that was done", p, 1, as, bs)
		} else {
			isRead(t, "P5.1: an armed Flush that wasn't", p, 1, zeros, zeros)
		}
	}
}

func TestArmAnew(t *testing.T) {
	p := poolOf(t, 1)
	h := open(t, p, 1)
	p.Arm(1, 0, true)
	p.Arm(1, 2, false)
	if got := flushes(p, h, 5); !slices.Equal(got, oneAt(5, 2, api.ErrIO)) {
		t.Errorf("P5.1: armed anew, later: %v", got)
	}
	p.Arm(1, 3, true)
	flushes(p, h, 1)
	p.Arm(1, 0, false)
	if e := p.Write(h, 0, as); e != api.ErrIO || p.Loose(1) != 0 {
		t.Errorf("P5.1: armed anew, sooner, and not done: %v, %d loose", e, p.Loose(1))
	}
	if got := flushes(p, h, 5); !slices.Equal(got, make([]api.Errno, 5)) {
		t.Errorf("P5.1: the first one isn't armed any more: %v", got)
	}
}

func TestArmIsOfOneDevice(t *testing.T) {
	p := poolOf(t, 1, 2)
	one, two := open(t, p, 1), open(t, p, 2)
	p.Arm(1, 1, false)
	p.Arm(2, 0, false)
	if got := flushes(p, two, 3); !slices.Equal(got, oneAt(3, 0, api.ErrIO)) {
		t.Errorf("P5.1: the second device: %v", got)
	}
	if got := flushes(p, one, 3); !slices.Equal(got, oneAt(3, 1, api.ErrIO)) {
		t.Errorf("P5.1: the first device's operations alone count: %v", got)
	}
}

func TestArmPassesErrorsBy(t *testing.T) {
	p := poolOf(t, 1)
	old := open(t, p, 1)
	p.Crash()
	h := open(t, p, 1)
	p.Arm(1, 1, false)
	wrong := func() {
		t.Helper()
		if p.Flush(old) != api.ErrGone || p.Write(h, 4, as) != api.ErrRange || p.Write(h, 0, "") != api.ErrSize {
			t.Errorf("P5.1: errors ahead of an armed one are told first")
		}
		if _, e := p.Read(h, -1); e != api.ErrRange {
			t.Errorf("P5.1: errors ahead of an armed one are told first: %v", e)
		}
	}
	wrong()
	flush(t, p, h)
	wrong()
	if got := flushes(p, h, 2); !slices.Equal(got, oneAt(2, 0, api.ErrIO)) {
		t.Errorf("P5.1: operations with errors don't count: %v", got)
	}
}

func TestArmBehindDetachAndCrash(t *testing.T) {
	p := poolOf(t, 1)
	p.Arm(1, 1, false)
	flush(t, p, open(t, p, 1))
	p.Detach(1)
	p.Attach(1)
	if e := p.Flush(open(t, p, 1)); e != api.ErrIO {
		t.Errorf("P5.1: behind Detach it is armed still: %v", e)
	}
	p.Detach(1)
	if e := p.Arm(1, 0, false); e != api.OK {
		t.Errorf("P5.1: Arm of one that isn't there: %v", e)
	}
	p.Attach(1)
	if e := p.Flush(open(t, p, 1)); e != api.ErrIO {
		t.Errorf("P5.1: it was armed while it wasn't there: %v", e)
	}
	p.Arm(1, 0, false)
	p.Crash()
	flush(t, p, open(t, p, 1))
	p.Detach(1)
	p.Arm(1, 0, false)
	p.Crash()
	p.Attach(1)
	if e := p.Flush(open(t, p, 1)); e != api.OK {
		t.Errorf("P5.1: behind a Crash nothing is armed, there or not: %v", e)
	}
}

func TestHaltAfter(t *testing.T) {
	for _, after := range []int{0, 1, 2, 5} {
		p := poolOf(t, 1, 2)
		one, two := open(t, p, 1), open(t, p, 2)
		p.Halt(after)
		for i := range after {
			if e := p.Flush([]Handle{one, two}[i%2]); e != api.OK {
				t.Errorf("P5.1: Halt(%d), operation %d: %v", after, i, e)
			}
		}
		isOp(t, "P5.1: it is down", p, one, api.ErrDown)
		isOp(t, "P5.1: it is down", p, two, api.ErrDown)
		isOp(t, "P5.1: ErrDown is told first", p, Handle{}, api.ErrDown)
		if p.Loose(1) != 0 || p.Count() != after {
			t.Errorf("P5.1: Halt(%d): Count is %d", after, p.Count())
		}
		p.Crash()
		isOp(t, "P5.1: behind a Crash", p, open(t, p, 1), api.OK)
	}
	for _, after := range []int{math.MinInt, -1, math.MaxInt} {
		p := poolOf(t, 1)
		p.Halt(after)
		if got := flushes(p, open(t, p, 1), 20); !slices.Equal(got, make([]api.Errno, 20)) {
			t.Errorf("P5.1: Halt(%d): %v", after, got)
		}
	}
}

func TestHaltIsFoundByAnOperationWithoutErrors(t *testing.T) {
	p := poolOf(t, 1)
	h := open(t, p, 1)
	p.Halt(1)
	wrong := func(why string, gone, place, size api.Errno) {
		t.Helper()
		if e := p.Flush(Handle{}); e != gone {
			t.Errorf("P5.1: %s: %v, not %v", why, e, gone)
		}
		if _, e := p.Read(h, 4); e != place {
			t.Errorf("P5.1: %s: %v, not %v", why, e, place)
		}
		if e := p.Write(h, 0, "a"); e != size {
			t.Errorf("P5.1: %s: %v, not %v", why, e, size)
		}
	}
	wrong("ahead", api.ErrGone, api.ErrRange, api.ErrSize)
	flush(t, p, h)
	wrong("not found yet", api.ErrGone, api.ErrRange, api.ErrSize)
	if e := p.Write(h, 0, as); e != api.ErrDown || p.Loose(1) != 0 {
		t.Errorf("P5.1: the next one without errors finds it down: %v", e)
	}
	wrong("found", api.ErrDown, api.ErrDown, api.ErrDown)
}

func TestHaltAnew(t *testing.T) {
	p := poolOf(t, 1)
	h := open(t, p, 1)
	p.Halt(0)
	p.Halt(2)
	p.Halt(-1)
	flush(t, p, h)
	p.Halt(5)
	p.Halt(1)
	flush(t, p, h)
	if e := p.Flush(h); e != api.ErrDown {
		t.Errorf("P5.1: the last Halt holds: %v", e)
	}
	p.Halt(-1)
	p.Halt(9)
	if e := p.Flush(h); e != api.ErrDown {
		t.Errorf("P5.1: it is down till Crash: %v", e)
	}
	p.Crash()
	if got := flushes(p, open(t, p, 1), 20); !slices.Equal(got, make([]api.Errno, 20)) {
		t.Errorf("P5.1: behind a Crash it won't be down by itself: %v", got)
	}
	p.Halt(1)
	p.Crash()
	if got := flushes(p, open(t, p, 1), 3); !slices.Equal(got, make([]api.Errno, 3)) {
		t.Errorf("P5.1: a Crash takes Halt back: %v", got)
	}
}

func TestDownIsOfOperationsAlone(t *testing.T) {
	p := looseOf(t, 1, 2)
	p.Halt(0)
	p.Flush(open(t, p, 1))
	if p.Add(3, 5) != api.OK || p.Size(3) != 5 || !p.There(3) || p.Loose(1) != 3 || p.Arm(3, 0, true) != api.OK {
		t.Errorf("P5.1: calls that are no operations, while it is down")
	}
	if p.Detach(1, 1, 0, 1) != api.OK || p.Attach(1) != api.OK || p.Loose(1) != 0 {
		t.Errorf("P5.1: Detach and Attach while it is down")
	}
	isOp(t, "P5.1: it is down still", p, open(t, p, 1), api.ErrDown)
	p.Crash(0, 1, 0)
	isRead(t, "P5.1", p, 1, bs, zeros, as, bs)
	isRead(t, "P5.1", p, 2, as, zeros, bs, as)
}

func TestArmAndHalt(t *testing.T) {
	for _, c := range []struct {
		arm, halt int
		want      []api.Errno
	}{
		{0, 0, []api.Errno{api.ErrIO, api.ErrDown, api.ErrDown, api.ErrDown}},
		{1, 0, []api.Errno{api.ErrDown, api.ErrDown, api.ErrDown, api.ErrDown}},
		{0, 1, []api.Errno{api.ErrIO, api.OK, api.ErrDown, api.ErrDown}},
		{1, 1, []api.Errno{api.OK, api.ErrIO, api.ErrDown, api.ErrDown}},
		{2, 1, []api.Errno{api.OK, api.ErrDown, api.ErrDown, api.ErrDown}},
		{1, 2, []api.Errno{api.OK, api.ErrIO, api.OK, api.ErrDown}},
		{2, 2, []api.Errno{api.OK, api.OK, api.ErrIO, api.ErrDown}},
		{0, -1, []api.Errno{api.ErrIO, api.OK, api.OK, api.OK}},
	} {
		p := poolOf(t, 1)
		p.Arm(1, c.arm, true)
		p.Halt(c.halt)
		if got := flushes(p, open(t, p, 1), 4); !slices.Equal(got, c.want) {
			t.Errorf("P5.1: Arm(1, %d), Halt(%d): %v, not %v", c.arm, c.halt, got, c.want)
		}
		p.Crash()
		if got := flushes(p, open(t, p, 1), 4); !slices.Equal(got, make([]api.Errno, 4)) {
			t.Errorf("P5.1: Arm(1, %d), Halt(%d), Crash: %v", c.arm, c.halt, got)
		}
	}
}

func TestArmedOneOfAHaltedPoolIsDone(t *testing.T) {
	p := poolOf(t, 1, 2)
	p.Halt(0)
	p.Arm(1, 0, true)
	if e := p.Write(open(t, p, 1), 0, as); e != api.ErrIO || p.Loose(1) != 1 {
		t.Errorf("P5.1: armed, behind the last one: %v, %d loose", e, p.Loose(1))
	}
	if e := p.Flush(open(t, p, 2)); e != api.ErrDown {
		t.Errorf("P5.1: the next one finds it down: %v", e)
	}
}
