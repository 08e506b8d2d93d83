package flash

import (
	"math"
	"slices"
	"strings"
	"testing"

	"bandolier/api"
)

var (
	zeros = strings.Repeat("\x00", 64)
	as    = strings.Repeat("a", 64)
	bs    = strings.Repeat("b", 64)
	cs    = strings.Repeat("c", 64)
)

// poolOf answers a pool with devices of four sectors.
func poolOf(t *testing.T, serials ...int) *Pool {
	t.Helper()
	p := New()
	for _, serial := range serials {
		if e := p.Add(serial, 4); e != api.OK {
			t.Fatalf("P5.1: Add(%d, 4): %v", serial, e)
		}
	}
	return p
}

func open(t *testing.T, p *Pool, serial int) Handle {
	t.Helper()
	h, e := p.Open(serial)
	if e != api.OK || h.Serial != serial {
		t.Fatalf("P5.1: Open(%d): %v, %v", serial, h, e)
	}
	return h
}

func write(t *testing.T, p *Pool, h Handle, i int, s string) {
	t.Helper()
	if e := p.Write(h, i, s); e != api.OK {
		t.Fatalf("P5.1: Write of sector %d: %v", i, e)
	}
}

func flush(t *testing.T, p *Pool, h Handle) {
	t.Helper()
	if e := p.Flush(h); e != api.OK {
		t.Fatalf("P5.1: Flush: %v", e)
	}
}

// isRead holds what the device has in its first sectors against want.
func isRead(t *testing.T, why string, p *Pool, serial int, want ...string) {
	t.Helper()
	h := open(t, p, serial)
	for i, s := range want {
		if got, e := p.Read(h, i); got != s || e != api.OK {
			t.Errorf("%s: sector %d of %d: %q, %v, not %q", why, i, serial, got, e, s)
		}
	}
}

// isOp makes one operation of each kind; each is to answer want.
func isOp(t *testing.T, why string, p *Pool, h Handle, want api.Errno) {
	t.Helper()
	if s, e := p.Read(h, 0); e != want || e != api.OK && s != "" {
		t.Errorf("%s: Read: %q, %v, not %v", why, s, e, want)
	}
	if e := p.Write(h, 0, cs); e != want {
		t.Errorf("%s: Write: %v, not %v", why, e, want)
	}
	if e := p.Flush(h); e != want {
		t.Errorf("%s: Flush: %v, not %v", why, e, want)
	}
}

func TestNewHasNothing(t *testing.T) {
	p := New()
	if p.Count() != 0 || p.Size(1) != 0 || p.Loose(1) != 0 || p.There(1) {
		t.Errorf("P5.1: a new pool has devices")
	}
	if New() == New() {
		t.Errorf("P5.1: two pools are one")
	}
}

func TestAddArguments(t *testing.T) {
	for _, serial := range []int{math.MinInt, -1, 0, 1, 2, 999, 1000, 1001, math.MaxInt} {
		for _, sectors := range []int{math.MinInt, -1, 0, 1, 2, 4095, 4096, 4097, math.MaxInt} {
			p := New()
			want, size := api.OK, sectors
			if serial < 1 || serial > 1000 || sectors < 1 || sectors > 4096 {
				want, size = api.ErrArg, 0
			}
			if e := p.Add(serial, sectors); e != want {
				t.Errorf("P5.1: Add(%d, %d): %v", serial, sectors, e)
			}
			if p.Size(serial) != size || p.There(serial) != (want == api.OK) || p.Loose(serial) != 0 {
				t.Errorf("P5.1: behind Add(%d, %d): %d sectors", serial, sectors, p.Size(serial))
			}
			h, e := p.Open(serial)
			if want == api.OK && (h != Handle{Serial: serial, Session: 1} || e != api.OK) {
				t.Errorf("P5.1: the first session of %d: %v, %v", serial, h, e)
			}
			if want != api.OK && (h != Handle{} || e != api.ErrNone) {
				t.Errorf("P5.1: Open(%d): %v, %v", serial, h, e)
			}
		}
	}
}

func TestAddUntilFull(t *testing.T) {
	p := New()
	for i := range 17 {
		if e := p.Add(1000-i, 1); e != api.OK {
			t.Fatalf("P5.1: device %d: %v", i+1, e)
		}
	}
	if e := p.Add(1, 1); e != api.ErrFull || p.Size(1) != 0 || p.There(1) {
		t.Errorf("P5.1: the eighteenth: %v", e)
	}
	if e := p.Add(1000, 1); e != api.ErrThere {
		t.Errorf("P5.1: a second one of a serial is told ahead of ErrFull: %v", e)
	}
	if p.Add(0, 1) != api.ErrArg || p.Add(1, 4097) != api.ErrArg {
		t.Errorf("P5.1: a wrong number is told ahead of ErrFull")
	}
	p.Detach(1000)
	if e := p.Add(1, 1); e != api.ErrFull {
		t.Errorf("P5.1: one that isn't there counts, too: %v", e)
	}
}

func TestAddTwice(t *testing.T) {
	p := poolOf(t, 3)
	write(t, p, open(t, p, 3), 0, as)
	if e := p.Add(3, 9); e != api.ErrThere || p.Size(3) != 4 || p.Loose(3) != 1 {
		t.Errorf("P5.1: a second one of a serial: %v", e)
	}
	if e := p.Add(3, 0); e != api.ErrArg {
		t.Errorf("P5.1: a wrong number is told ahead of ErrThere: %v", e)
	}
	p.Detach(3, 1)
	if e := p.Add(3, 9); e != api.ErrThere || p.There(3) {
		t.Errorf("P5.1: a serial is never two devices': %v", e)
	}
	p.Attach(3)
	isRead(t, "P5.1", p, 3, as, zeros, zeros, zeros)
}

func TestFirstSectorsAreZero(t *testing.T) {
	p := New()
	p.Add(1, 4096)
	h := open(t, p, 1)
	for i := range 4096 {
		if s, e := p.Read(h, i); s != zeros || e != api.OK {
			t.Fatalf("P5.1: sector %d of a new device: %q, %v", i, s, e)
		}
	}
	if p.Count() != 4096 {
		t.Errorf("P5.1: Count is %d", p.Count())
	}
}

func TestNoSuchDevice(t *testing.T) {
	p := poolOf(t, 2)
	for _, serial := range []int{math.MinInt, -1, 0, 1, 3, 1001, math.MaxInt} {
		if h, e := p.Open(serial); e != api.ErrNone || h != (Handle{}) {
			t.Errorf("P5.1: Open(%d): %v, %v", serial, h, e)
		}
		if p.Arm(serial, 0, true) != api.ErrNone || p.Detach(serial, 1) != api.ErrNone || p.Attach(serial) != api.ErrNone {
			t.Errorf("P5.1: Arm, Detach, Attach of %d", serial)
		}
		if p.Size(serial) != 0 || p.Loose(serial) != 0 || p.There(serial) {
			t.Errorf("P5.1: Size, Loose, There of %d", serial)
		}
	}
	isOp(t, "P5.1: nothing has changed", p, open(t, p, 2), api.OK)
}

func TestWriteReadFlush(t *testing.T) {
	p := poolOf(t, 3)
	h := open(t, p, 3)
	write(t, p, h, 0, as)
	write(t, p, h, 3, bs)
	isRead(t, "P5.1: what is loose is read", p, 3, as, zeros, zeros, bs)
	if p.Loose(3) != 2 {
		t.Errorf("P5.1: Loose is %d", p.Loose(3))
	}
	write(t, p, h, 0, cs)
	if p.Loose(3) != 2 {
		t.Errorf("P5.1: a sector is loose once: %d", p.Loose(3))
	}
	flush(t, p, h)
	if p.Loose(3) != 0 {
		t.Errorf("P5.1: behind Flush %d are loose", p.Loose(3))
	}
	write(t, p, h, 0, cs)
	if p.Loose(3) != 1 {
		t.Errorf("P5.1: what is written as it was is loose, too: %d", p.Loose(3))
	}
	isRead(t, "P5.1", p, 3, cs, zeros, zeros, bs)
}

func TestFlushIsOfOneDevice(t *testing.T) {
	p := poolOf(t, 1, 2)
	write(t, p, open(t, p, 1), 0, as)
	write(t, p, open(t, p, 2), 0, bs)
	flush(t, p, open(t, p, 1))
	if p.Loose(1) != 0 || p.Loose(2) != 1 {
		t.Errorf("P5.1: Loose is %d, %d", p.Loose(1), p.Loose(2))
	}
	p.Crash()
	isRead(t, "P5.1", p, 1, as)
	isRead(t, "P5.1", p, 2, zeros)
}

func TestAnyBytesAreKept(t *testing.T) {
	p := poolOf(t, 1)
	b := make([]byte, 256)
	for i := range b {
		b[i] = byte(i)
	}
	h := open(t, p, 1)
	for i := range 4 {
		write(t, p, h, i, string(b[64*i:64*i+64]))
	}
	isRead(t, "P5.1", p, 1, string(b[:64]), string(b[64:128]), string(b[128:192]), string(b[192:]))
}

func TestOperationErrorsInOrder(t *testing.T) {
	long := as + "a"
	for _, down := range []bool{false, true} {
		for _, away := range []bool{false, true} {
			for _, i := range []int{math.MinInt, -1, 0, 3, 4, math.MaxInt} {
				for _, s := range []string{"", as[1:], as, long, as + bs} {
					p := poolOf(t, 1, 2)
					h := open(t, p, 1)
					if down {
						p.Halt(0)
						p.Flush(open(t, p, 2))
					}
					if away {
						p.Detach(1)
					}
					read := api.OK
					switch {
					case down:
						read = api.ErrDown
					case away:
						read = api.ErrGone
					case i < 0 || i > 3:
						read = api.ErrRange
					}
					wrote := read
					if wrote == api.OK && len(s) != 64 {
						wrote = api.ErrSize
					}
					if got, e := p.Read(h, i); e != read || e != api.OK && got != "" {
						t.Errorf("P5.1: Read of %d, down %v, away %v: %q, %v", i, down, away, got, e)
					}
					if e := p.Write(h, i, s); e != wrote {
						t.Errorf("P5.1: Write of %d bytes to %d, down %v, away %v: %v", len(s), i, down, away, e)
					}
				}
			}
		}
	}
}

func TestHandlesOfNoDevice(t *testing.T) {
	p := poolOf(t, 2)
	for _, h := range []Handle{{}, {2, 0}, {2, 2}, {2, -1}, {2, math.MaxInt}, {1, 1}, {0, 1}, {-2, 1}, {math.MaxInt, math.MinInt}} {
		isOp(t, "P5.1: a handle of none", p, h, api.ErrGone)
		if _, e := p.Read(h, -1); e != api.ErrGone {
			t.Errorf("P5.1: ErrGone is told ahead of ErrRange: %v", e)
		}
		if e := p.Write(h, 0, "a"); e != api.ErrGone {
			t.Errorf("P5.1: ErrGone is told ahead of ErrSize: %v", e)
		}
	}
	if p.Count() != 0 || p.Loose(2) != 0 {
		t.Errorf("P5.1: they changed something")
	}
	isOp(t, "P5.1: one that is made by hand", p, Handle{2, 1}, api.OK)
}

func TestErrorsChangeNothing(t *testing.T) {
	p := poolOf(t, 1)
	h := open(t, p, 1)
	write(t, p, h, 0, as)
	for _, i := range []int{-1, 4} {
		if p.Write(h, i, bs) != api.ErrRange {
			t.Errorf("P5.1: Write to %d", i)
		}
	}
	for _, s := range []string{"", as[1:], as + "a"} {
		if p.Write(h, 0, s) != api.ErrSize || p.Write(h, 1, s) != api.ErrSize {
			t.Errorf("P5.1: Write of %d bytes", len(s))
		}
	}
	if p.Loose(1) != 1 || p.Count() != 1 {
		t.Errorf("P5.1: %d loose, Count %d", p.Loose(1), p.Count())
	}
	isRead(t, "P5.1", p, 1, as, zeros, zeros, zeros)
}

func TestCount(t *testing.T) {
	p := poolOf(t, 1, 2)
	h, other := open(t, p, 1), open(t, p, 2)
	isOp(t, "P5.1", p, h, api.OK)
	isOp(t, "P5.1", p, other, api.OK)
	if p.Count() != 6 {
		t.Errorf("P5.1: Count is %d, not 6", p.Count())
	}
	p.Read(h, 9)
	p.Write(h, 0, "")
	p.Flush(Handle{})
	p.Arm(1, 0, true)
	p.Write(h, 0, as)
	p.Halt(0)
	p.Flush(h)
	if p.Count() != 6 {
		t.Errorf("P5.1: what answers an error isn't counted: %d", p.Count())
	}
	p.Crash()
	p.Detach(2)
	p.Flush(open(t, p, 1))
	if p.Count() != 7 {
		t.Errorf("P5.1: Count goes on behind a Crash: %d", p.Count())
	}
}

func TestCrashExample(t *testing.T) {
	p := poolOf(t, 1)
	write(t, p, open(t, p, 1), 0, as)
	p.Crash()
	isRead(t, "P5.1: Crash()", p, 1, zeros)
	write(t, p, open(t, p, 1), 0, as)
	p.Crash(1)
	isRead(t, "P5.1: Crash(1)", p, 1, as)
}

// looseOf answers a pool whose devices have b in three sectors, loose, over a.
func looseOf(t *testing.T, serials ...int) *Pool {
	t.Helper()
	p := poolOf(t, serials...)
	for _, serial := range serials {
		h := open(t, p, serial)
		for _, i := range []int{0, 2, 3} {
			write(t, p, h, i, as)
		}
		flush(t, p, h)
		for _, i := range []int{3, 0, 2} {
			write(t, p, h, i, cs)
			write(t, p, h, i, bs)
		}
	}
	return p
}

func TestCrashChoices(t *testing.T) {
	for _, c := range []struct {
		choice []int
		want   [3]string
	}{
		{nil, [3]string{as, as, as}},
		{[]int{}, [3]string{as, as, as}},
		{[]int{1}, [3]string{bs, as, as}},
		{[]int{0, 1}, [3]string{as, bs, as}},
		{[]int{0, 0, 1}, [3]string{as, as, bs}},
		{[]int{1, 0, 1}, [3]string{bs, as, bs}},
		{[]int{1, 1, 1}, [3]string{bs, bs, bs}},
		{[]int{0, 2, -2}, [3]string{as, as, as}},
		{[]int{-1, 3, -7}, [3]string{bs, bs, bs}},
		{[]int{math.MaxInt, math.MinInt, math.MinInt + 1}, [3]string{bs, as, bs}},
		{[]int{0, 1, 0, 1, 1, 1}, [3]string{as, bs, as}},
	} {
		for _, detach := range []bool{false, true} {
			p := looseOf(t, 5)
			if detach {
				if p.Detach(5, c.choice...) != api.OK || p.Loose(5) != 0 || p.Attach(5) != api.OK {
					t.Errorf("P5.1: Detach by %v", c.choice)
				}
			} else {
				p.Crash(c.choice...)
			}
			if p.Loose(5) != 0 {
				t.Errorf("P5.1: by %v %d are loose", c.choice, p.Loose(5))
			}
			isRead(t, "P5.1: by choices", p, 5, c.want[0], zeros, c.want[1], c.want[2])
			p.Crash(0, 0, 0, 0)
			isRead(t, "P5.1: none is loose any more", p, 5, c.want[0], zeros, c.want[1], c.want[2])
		}
	}
}

func TestCrashGoesByRisingSerials(t *testing.T) {
	p := looseOf(t, 7, 1000, 1)
	p.Crash(1, 0, 0, 0, 1, 0, 0, 0, 1)
	isRead(t, "P5.1: the least serial first", p, 1, bs, zeros, as, as)
	isRead(t, "P5.1: then the next", p, 7, as, zeros, bs, as)
	isRead(t, "P5.1: then the greatest", p, 1000, as, zeros, as, bs)
}

func TestChoicesArePassedOverWhereNoneIsLoose(t *testing.T) {
	p := looseOf(t, 1, 2, 3)
	p.Detach(2)
	flush(t, p, open(t, p, 1))
	p.Crash(0, 1, 0)
	isRead(t, "P5.1: none was loose", p, 1, bs, zeros, bs, bs)
	isRead(t, "P5.1: the first choices are this one's", p, 3, as, zeros, bs, as)
	p.Attach(2)
	isRead(t, "P5.1: this one's were settled by Detach", p, 2, as, zeros, as, as)
}

func TestDetachIsOfOneDevice(t *testing.T) {
	p := looseOf(t, 1, 2)
	h := open(t, p, 2)
	if e := p.Detach(1, 1, 1, 1); e != api.OK {
		t.Fatalf("P5.1: Detach: %v", e)
	}
	if p.There(1) || !p.There(2) || p.Loose(1) != 0 || p.Loose(2) != 3 || p.Size(1) != 4 {
		t.Errorf("P5.1: behind Detach: there %v, %v, loose %d, %d", p.There(1), p.There(2), p.Loose(1), p.Loose(2))
	}
	if got, e := p.Open(1); e != api.ErrGone || got != (Handle{}) {
		t.Errorf("P5.1: Open of one that isn't there: %v, %v", got, e)
	}
	if e := p.Detach(1); e != api.ErrGone {
		t.Errorf("P5.1: Detach of one that isn't there: %v", e)
	}
	if e := p.Attach(2); e != api.ErrThere || open(t, p, 2) != h {
		t.Errorf("P5.1: Attach of one that is there: %v", e)
	}
	isOp(t, "P5.1: the other one goes on", p, h, api.OK)
	if e := p.Attach(1); e != api.OK || !p.There(1) {
		t.Errorf("P5.1: Attach: %v", e)
	}
	isRead(t, "P5.1", p, 1, bs, zeros, bs, bs)
}

func TestChoicesAreLeftAsTheyAre(t *testing.T) {
	p := looseOf(t, 1, 2)
	room := []int{1, 0, 1, 0, 1, 5, 6, 7}
	before := slices.Clone(room)
	p.Crash(room[:5]...)
	write(t, p, open(t, p, 1), 0, as)
	p.Detach(1, room[:2]...)
	if !slices.Equal(room, before) {
		t.Errorf("P5.1: the choices were changed: %v", room)
	}
}

func TestSessions(t *testing.T) {
	p := poolOf(t, 1, 2)
	var old []Handle
	step := func(why string, session int) {
		t.Helper()
		for _, h := range old {
			isOp(t, "P5.3: an old handle, behind "+why, p, h, api.ErrGone)
		}
		if session == 0 {
			return
		}
		h := open(t, p, 1)
		if h.Session != session {
			t.Errorf("P5.1: behind %s: session %d, not %d", why, h.Session, session)
		}
		isOp(t, "P5.1: a new handle, behind "+why, p, h, api.OK)
		old = append(old, h)
	}
	step("Add", 1)
	p.Crash()
	step("Crash", 2)
	p.Crash(1, 1, 1)
	step("another Crash", 3)
	p.Detach(1)
	step("Detach", 0)
	p.Crash()
	step("a Crash while it isn't there", 0)
	p.Attach(1)
	step("Attach", 4)
	p.Detach(1)
	p.Attach(1)
	step("both", 5)
	if h := open(t, p, 2); h.Session != 4 {
		t.Errorf("P5.1: a device that is there has another session at each Crash: %d, not 4", h.Session)
	}
}

func TestHandleIsOfUseTillThen(t *testing.T) {
	p := poolOf(t, 1, 2)
	h := open(t, p, 1)
	p.Detach(2)
	p.Attach(2)
	p.Add(3, 1)
	p.Halt(-1)
	p.Attach(1)
	if open(t, p, 1) != h {
		t.Errorf("P5.1: it has another session")
	}
	isOp(t, "P5.1: of use behind what isn't of its device", p, h, api.OK)
}

func TestFlushedStays(t *testing.T) {
	p := poolOf(t, 1, 2)
	h := open(t, p, 1)
	write(t, p, h, 0, as)
	write(t, p, h, 1, as)
	flush(t, p, h)
	kept := func(why string) {
		t.Helper()
		isRead(t, "P5.2: behind "+why, p, 1, as, as)
	}
	kept("Flush")
	p.Crash()
	kept("Crash")
	p.Crash(0, 0, 0, 0)
	kept("Crash with choices")
	p.Detach(1, 0, 0)
	p.Crash(0, 0)
	p.Attach(1)
	kept("Detach and Attach")
	h = open(t, p, 1)
	p.Arm(1, 0, false)
	if p.Write(h, 0, bs) != api.ErrIO || p.Loose(1) != 0 {
		t.Errorf("P5.1: an armed Write")
	}
	kept("a Write that wasn't done")
	p.Halt(0)
	p.Write(h, 0, bs)
	p.Write(h, 1, "x")
	p.Crash(1, 1)
	kept("a Write while it was down")
	write(t, p, open(t, p, 1), 0, bs)
	isRead(t, "P5.2: written over", p, 1, bs, as)
	p.Crash(2)
	kept("a Write that was lost")
	write(t, p, open(t, p, 1), 0, bs)
	write(t, p, open(t, p, 1), 0, cs)
	p.Detach(1)
	p.Attach(1)
	kept("two Writes that were lost")
	write(t, p, open(t, p, 1), 0, bs)
	p.Crash(1)
	p.Crash()
	isRead(t, "P5.2: written over, and it stayed", p, 1, bs, as)
}
