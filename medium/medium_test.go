package medium

import (
	"math"
	"strings"
	"testing"

	"bandolier/api"
	"bandolier/flash"
)

const sectors = 6

// twoOf answers a pool with devices 2 and 3, and a medium of each.
func twoOf(t *testing.T) (*flash.Pool, *Medium, *Medium) {
	t.Helper()
	p := flash.New()
	p.Add(2, sectors)
	p.Add(3, sectors)
	return p, of(t, p, 2), of(t, p, 3)
}

func of(t *testing.T, p *flash.Pool, serial int) *Medium {
	t.Helper()
	m, e := Of(p, serial)
	if m == nil || e != api.OK {
		t.Fatalf("P6.1: Of(%d): %v, %v", serial, m, e)
	}
	return m
}

// isDone does do, in which nothing is to fail.
func isDone(t *testing.T, why string, do func()) {
	t.Helper()
	ended := false
	b, is := Guard(func() { do(); ended = true })
	if b != (Broken{}) || is || !ended {
		t.Errorf("%s: %v, %v, it ended: %v", why, b, is, ended)
	}
}

// isBroken does do, which is to fail, and not to go on.
func isBroken(t *testing.T, why string, serial int, e api.Errno, do func()) {
	t.Helper()
	b, is := Guard(func() { do(); t.Errorf("%s: it goes on", why) })
	if b != (Broken{Serial: serial, Err: e}) || !is {
		t.Errorf("%s: %v, %v, not %d, %v", why, b, is, serial, e)
	}
}

func isThere(t *testing.T, why string, m *Medium, from int, want string) {
	t.Helper()
	isDone(t, why, func() {
		if got := m.Read(from, len(want)/64); got != want {
			t.Errorf("%s: %q, not %q", why, got, want)
		}
	})
}

func sectorOf(s string) string { return s + strings.Repeat("\x00", 64-len(s)) }

func zeros(n int) string { return strings.Repeat("\x00", 64*n) }

func TestOf(t *testing.T) {
	p, m, _ := twoOf(t)
	if m.Serial() != 2 || m.Size() != sectors {
		t.Errorf("P6.1: serial %d, size %d", m.Serial(), m.Size())
	}
	for _, serial := range []int{math.MinInt, -1, 0, 1, 4, 1001, math.MaxInt} {
		if m, e := Of(p, serial); m != nil || e != api.ErrNone {
			t.Errorf("P6.1: Of(%d): %v, %v", serial, m, e)
		}
	}
	p.Detach(2)
	if m, e := Of(p, 2); m != nil || e != api.ErrGone {
		t.Errorf("P6.1: Of one that isn't there: %v, %v", m, e)
	}
	if m.Serial() != 2 || m.Size() != sectors {
		t.Errorf("P6.1: behind Detach: serial %d, size %d", m.Serial(), m.Size())
	}
	p.Attach(2)
	p.Halt(0)
	isBroken(t, "P6.1", 3, api.ErrDown, of(t, p, 3).Flush)
	of(t, p, 2)
	if p.Count() != 0 {
		t.Errorf("P6.1: Of is no operation: %d", p.Count())
	}
}

func TestReadHowMany(t *testing.T) {
	p, m, _ := twoOf(t)
	all := ""
	for i := range sectors {
		all += sectorOf(string(rune('a' + i)))
	}
	isDone(t, "P6.1: Write", func() { m.Write(0, all) })
	for from := range sectors + 1 {
		for n := 0; from+n <= sectors; n++ {
			before := p.Count()
			isThere(t, "P6.1: Read", m, from, all[64*from:64*(from+n)])
			if p.Count() != before+n {
				t.Errorf("P6.1: %d sectors by %d operations", n, p.Count()-before)
			}
		}
	}
	for _, from := range []int{math.MinInt, -1, 0, sectors, math.MaxInt} {
		for _, n := range []int{math.MinInt, -1, 0} {
			isDone(t, "P6.1: no sectors", func() {
				if s := m.Read(from, n); s != "" {
					t.Errorf("P6.1: Read(%d, %d): %q", from, n, s)
				}
			})
		}
	}
}

func TestReadBeyond(t *testing.T) {
	p, m, _ := twoOf(t)
	for _, c := range []struct{ from, n, done int }{
		{0, sectors + 1, sectors}, {0, math.MaxInt, sectors}, {sectors - 1, 2, 1}, {sectors, 1, 0}, {sectors, math.MaxInt, 0},
		{-1, 1, 0}, {-1, 3, 0}, {math.MinInt, math.MaxInt, 0}, {math.MaxInt, 1, 0}, {math.MaxInt, math.MaxInt, 0},
	} {
		before := p.Count()
		isBroken(t, "P6.1: Read beyond", 2, api.ErrRange, func() { m.Read(c.from, c.n) })
		if p.Count() != before+c.done {
			t.Errorf("P6.1: Read(%d, %d): %d operations, not %d", c.from, c.n, p.Count()-before, c.done)
		}
	}
}

func TestWriteHowMuch(t *testing.T) {
	for _, size := range []int{0, 1, 2, 62, 63, 64, 65, 127, 128, 129, 192, 64*sectors - 64} {
		p, m, other := twoOf(t)
		isDone(t, "P6.1: Write", func() { m.Write(0, strings.Repeat("x", 64*sectors)); m.Flush() })
		s := strings.Repeat("ab\x00\xff", size/4+1)[:size]
		n := (size + 63) / 64
		before := p.Count()
		isDone(t, "P6.1: Write", func() { m.Write(1, s) })
		if p.Loose(2) != n || p.Count() != before+n {
			t.Errorf("P6.1: %d bytes: %d loose, %d operations, not %d", size, p.Loose(2), p.Count()-before, n)
		}
		want := strings.Repeat("x", 64) + s + strings.Repeat("\x00", 64*n-size) + strings.Repeat("x", 64*(sectors-1-n))
		isThere(t, "P6.1: Write", m, 0, want)
		isThere(t, "P6.1: another device", other, 0, zeros(sectors))
	}
}

func TestWriteBeyond(t *testing.T) {
	for _, c := range []struct{ from, size, done int }{
		{0, 64*sectors + 1, sectors}, {sectors - 1, 65, 1}, {sectors - 2, 1000, 2}, {sectors, 1, 0},
		{-1, 1, 0}, {-1, 200, 0}, {math.MinInt, 64, 0}, {math.MaxInt, 64, 0}, {math.MaxInt, 640, 0},
	} {
		p, m, _ := twoOf(t)
		isBroken(t, "P6.1: Write beyond", 2, api.ErrRange, func() { m.Write(c.from, strings.Repeat("y", c.size)) })
		if p.Loose(2) != c.done {
			t.Errorf("P6.2: what was done ahead stays: %d sectors, not %d", p.Loose(2), c.done)
		}
		if c.done > 0 {
			isThere(t, "P6.2: what was done ahead stays", m, c.from, strings.Repeat("y", 64*c.done))
		}
	}
	p, m, _ := twoOf(t)
	for _, from := range []int{math.MinInt, -1, 0, sectors, math.MaxInt} {
		isDone(t, "P6.1: no bytes", func() { m.Write(from, "") })
	}
	if p.Count() != 0 || p.Loose(2) != 0 {
		t.Errorf("P6.1: no bytes are no operations: %d", p.Count())
	}
}

func TestFlush(t *testing.T) {
	p, m, other := twoOf(t)
	isDone(t, "P6.1: Flush", func() {
		m.Write(0, "a")
		other.Write(0, "b")
		m.Flush()
	})
	if p.Loose(2) != 0 || p.Loose(3) != 1 || p.Count() != 3 {
		t.Errorf("P6.1: Flush: loose %d, %d, Count %d", p.Loose(2), p.Loose(3), p.Count())
	}
	p.Crash()
	isThere(t, "P6.1: it was flushed", of(t, p, 2), 0, sectorOf("a"))
	isThere(t, "P6.1: it wasn't", of(t, p, 3), 0, zeros(1))
}

// each does each call that makes an operation.
func each(t *testing.T, why string, m *Medium, e api.Errno) {
	t.Helper()
	for _, do := range []func(){
		func() { m.Read(0, 1) },
		func() { m.Read(-1, 1) },
		func() { m.Write(0, "a") },
		func() { m.Write(sectors, "a") },
		m.Flush,
	} {
		isBroken(t, why, m.Serial(), e, do)
	}
	isDone(t, why+": what makes no operation", func() { m.Read(0, 0); m.Read(0, -1); m.Write(0, "") })
}

func TestDetachExample(t *testing.T) {
	p, m, other := twoOf(t)
	p.Detach(2)
	if b, is := Guard(func() { m.Write(0, "a") }); b != (Broken{Serial: 2, Err: api.ErrGone}) || !is {
		t.Errorf("P6.1: the example: %v, %v", b, is)
	}
	each(t, "P6.1: behind Detach", m, api.ErrGone)
	p.Attach(2)
	each(t, "P6.1: behind Attach, as it was there then", m, api.ErrGone)
	isThere(t, "P6.1: as it is there now", of(t, p, 2), 0, zeros(sectors))
	p.Crash()
	each(t, "P6.1: behind a Crash", other, api.ErrGone)
	p.Halt(0)
	isBroken(t, "P6.1: halted", 3, api.ErrDown, of(t, p, 3).Flush)
	each(t, "P6.1: down", of(t, p, 2), api.ErrDown)
	each(t, "P6.1: down", m, api.ErrDown)
}

func TestDoneAheadStays(t *testing.T) {
	s := sectorOf("a") + sectorOf("b") + sectorOf("c")
	for after := range 3 {
		for _, done := range []bool{false, true} {
			p, m, _ := twoOf(t)
			p.Arm(2, after, done)
			isBroken(t, "P6.2: armed", 2, api.ErrIO, func() { m.Write(1, s) })
			n := after
			if done {
				n++
			}
			if p.Loose(2) != n || p.Count() != after {
				t.Errorf("P6.2: armed at %d, done %v: %d loose, Count %d", after, done, p.Loose(2), p.Count())
			}
			isThere(t, "P6.2: what was done ahead stays", m, 0, zeros(1)+s[:64*n]+zeros(sectors-1-n))
			p.Arm(2, after, done)
			isBroken(t, "P6.2: armed", 2, api.ErrIO, func() { m.Read(1, 3) })
		}
	}
	p, m, other := twoOf(t)
	p.Halt(4)
	isBroken(t, "P6.2: halted", 3, api.ErrDown, func() {
		m.Write(0, s)
		m.Flush()
		other.Write(0, s)
	})
	p.Crash()
	isThere(t, "P6.2: it was flushed ahead", of(t, p, 2), 0, s)
	isThere(t, "P6.2: it wasn't written", of(t, p, 3), 0, zeros(sectors))
}
