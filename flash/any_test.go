package flash

import (
	"fmt"
	"math/rand"
	"slices"
	"strings"
	"testing"

	"bandolier/api"
)

// plain is a pool by the chapter's words, each device with all that it has
// twice: as it is read, and as it is for sure.
type plain struct {
	devices map[int]*plainDevice
	halt    int // -1: never
	down    bool
	count   int
}

type plainDevice struct {
	now, sure map[int]string
	loose     map[int]bool
	sectors   int
	there     bool
	session   int
	arm       int // -1: not armed
	done      bool
}

func (m *plain) add(serial, sectors int) api.Errno {
	switch {
	case serial < 1, serial > 1000, sectors < 1, sectors > 4096:
		return api.ErrArg
	case m.devices[serial] != nil:
		return api.ErrThere
	case len(m.devices) == 17:
		return api.ErrFull
	}
	d := &plainDevice{now: map[int]string{}, sure: map[int]string{}, loose: map[int]bool{}, sectors: sectors, there: true, session: 1, arm: -1}
	for i := range sectors {
		d.now[i], d.sure[i] = zeros, zeros
	}
	m.devices[serial] = d
	return api.OK
}

func (m *plain) open(serial int) (Handle, api.Errno) {
	d := m.devices[serial]
	if d == nil {
		return Handle{}, api.ErrNone
	}
	if !d.there {
		return Handle{}, api.ErrGone
	}
	return Handle{serial, d.session}, api.OK
}

// operate: kind r reads, w writes, f flushes.
func (m *plain) operate(kind byte, h Handle, i int, s string) (string, api.Errno) {
	d := m.devices[h.Serial]
	switch {
	case m.down:
		return "", api.ErrDown
	case d == nil || !d.there || d.session != h.Session:
		return "", api.ErrGone
	case kind != 'f' && (i < 0 || i >= d.sectors):
		return "", api.ErrRange
	case kind == 'w' && len(s) != 64:
		return "", api.ErrSize
	case d.arm == 0:
		d.arm = -1
		if d.done {
			d.do(kind, i, s)
		}
		return "", api.ErrIO
	case m.halt == 0:
		m.down = true
		return "", api.ErrDown
	}
	d.arm = max(d.arm-1, -1)
	m.halt = max(m.halt-1, -1)
	m.count++
	return d.do(kind, i, s), api.OK
}

func (d *plainDevice) do(kind byte, i int, s string) string {
	switch kind {
	case 'r':
		return d.now[i]
	case 'w':
		d.now[i], d.loose[i] = s, true
	case 'f':
		for i := range d.loose {
			d.sure[i] = d.now[i]
		}
		d.loose = map[int]bool{}
	}
	return ""
}

func (d *plainDevice) settle(choice []int) []int {
	for i := range d.sectors {
		if !d.loose[i] {
			continue
		}
		if len(choice) > 0 && (choice[0] == 1 || choice[0] == -1 || choice[0] == 3) {
			d.sure[i] = d.now[i]
		} else {
			d.now[i] = d.sure[i]
		}
		if len(choice) > 0 {
			choice = choice[1:]
		}
	}
	d.loose = map[int]bool{}
	return choice
}

func (m *plain) crash(choice []int) {
	for serial := range 1001 {
		d := m.devices[serial]
		if d == nil {
			continue
		}
		choice = d.settle(choice)
		d.arm = -1
		if d.there {
			d.session++
		}
	}
	m.halt, m.down = -1, false
}

func (m *plain) move(serial int, to bool, choice []int) api.Errno {
	d := m.devices[serial]
	switch {
	case d == nil:
		return api.ErrNone
	case d.there && to:
		return api.ErrThere
	case !d.there && !to:
		return api.ErrGone
	}
	d.settle(choice)
	if to {
		d.session++
	}
	d.there = to
	return api.OK
}

func (m *plain) arm(serial, after int, done bool) api.Errno {
	d := m.devices[serial]
	if d == nil {
		return api.ErrNone
	}
	d.arm, d.done = max(after, 0), done
	return api.OK
}

// walk makes the same calls of both, and remembers them.
type walk struct {
	t       *testing.T
	r       *rand.Rand
	p       *Pool
	m       *plain
	handles []Handle
	calls   []string
}

func (w *walk) is(call string, got, want any) {
	w.t.Helper()
	w.calls = append(w.calls, call)
	if got != want {
		w.t.Fatalf("P5.1: behind %s: %v, not %v", strings.Join(w.calls, ", "), got, want)
	}
}

func (w *walk) serial() int { return []int{0, 1, 2, 5, 9, 1000, 1001}[w.r.Intn(7)] }

func (w *walk) choices() []int {
	l := make([]int, w.r.Intn(9))
	for i := range l {
		l[i] = w.r.Intn(6) - 2
	}
	return l
}

func (w *walk) operation() {
	h := w.handles[w.r.Intn(len(w.handles))]
	if w.r.Intn(3) > 0 { // mostly one of use
		if live, e := w.m.open(w.serial()); e == api.OK {
			h = live
		}
	}
	i := w.r.Intn(8) - 1
	s := strings.Repeat(string(rune('a'+w.r.Intn(26))), 64)
	if w.r.Intn(10) == 0 {
		s = strings.Repeat("x", w.r.Intn(130))
	}
	switch w.r.Intn(5) {
	case 0, 1:
		e := w.p.Write(h, i, s)
		_, want := w.m.operate('w', h, i, s)
		w.is(fmt.Sprintf("Write(%v, %d, %.1s*%d)", h, i, s, len(s)), e, want)
	case 2, 3:
		got, e := w.p.Read(h, i)
		s, want := w.m.operate('r', h, i, "")
		w.is(fmt.Sprintf("Read(%v, %d)", h, i), got+fmt.Sprint(e), s+fmt.Sprint(want))
	default:
		e := w.p.Flush(h)
		_, want := w.m.operate('f', h, 0, "")
		w.is(fmt.Sprintf("Flush(%v)", h), e, want)
	}
}

func (w *walk) event() {
	serial := w.serial()
	switch w.r.Intn(9) {
	case 0:
		sectors := w.r.Intn(8)
		w.is(fmt.Sprintf("Add(%d, %d)", serial, sectors), w.p.Add(serial, sectors), w.m.add(serial, sectors))
	case 1:
		c := w.choices()
		w.p.Crash(c...)
		w.m.crash(c)
		w.is(fmt.Sprintf("Crash(%v)", c), 0, 0)
	case 2, 3:
		c := w.choices()
		w.is(fmt.Sprintf("Detach(%d, %v)", serial, c), w.p.Detach(serial, c...), w.m.move(serial, false, c))
	case 4, 5:
		w.is(fmt.Sprintf("Attach(%d)", serial), w.p.Attach(serial), w.m.move(serial, true, nil))
	case 6:
		after, done := w.r.Intn(6)-1, w.r.Intn(2) == 0
		w.is(fmt.Sprintf("Arm(%d, %d, %v)", serial, after, done), w.p.Arm(serial, after, done), w.m.arm(serial, after, done))
	case 7:
		after := w.r.Intn(12) - 4
		w.p.Halt(after)
		w.m.halt = max(after, -1)
		w.is(fmt.Sprintf("Halt(%d)", after), 0, 0)
	default:
		h, e := w.p.Open(serial)
		want, wantE := w.m.open(serial)
		w.is(fmt.Sprintf("Open(%d)", serial), h, want)
		w.is("its error", e, wantE)
		w.handles = append(w.handles, h)
	}
}

// look asks all that changes nothing.
func (w *walk) look() {
	w.is("Count", w.p.Count(), w.m.count)
	for _, serial := range []int{0, 1, 2, 5, 9, 1000, 1001} {
		d := w.m.devices[serial]
		if d == nil {
			d = &plainDevice{}
		}
		got := fmt.Sprint(w.p.Size(serial), w.p.Loose(serial), w.p.There(serial))
		want := fmt.Sprint(d.sectors, len(d.loose), d.there)
		if got != want {
			w.is(fmt.Sprintf("Size, Loose, There of %d", serial), got, want)
		}
	}
}

// flushed is P5.2: behind a crash all that isn't lost is there.
func (w *walk) flushed() {
	w.p.Crash()
	w.m.crash(nil)
	w.is("Crash()", 0, 0)
	for serial, d := range w.m.devices {
		w.p.Attach(serial)
		h, _ := w.p.Open(serial)
		for i := range d.sectors {
			if s, e := w.p.Read(h, i); s != d.sure[i] || e != api.OK {
				w.t.Fatalf("P5.2: behind %s: sector %d of %d is %q, %v, not %q", strings.Join(w.calls, ", "), i, serial, s, e, d.sure[i])
			}
		}
	}
}

func TestBehindAnyCalls(t *testing.T) {
	for seed := range 400 {
		r := rand.New(rand.NewSource(int64(seed)))
		w := &walk{t: t, r: r, p: New(), m: &plain{devices: map[int]*plainDevice{}, halt: -1}, handles: []Handle{{}}}
		for _, serial := range []int{9, 1000, 1, 5, 2} {
			if r.Intn(3) > 0 {
				w.is(fmt.Sprintf("Add(%d, 5)", serial), w.p.Add(serial, 5), w.m.add(serial, 5))
			}
		}
		for range 300 {
			if r.Intn(4) == 0 {
				w.event()
			} else {
				w.operation()
			}
			w.look()
		}
		w.flushed()
	}
}

func TestAlikeIsAlike(t *testing.T) {
	tell := func() []string {
		p := New()
		var told []string
		for _, serial := range []int{3, 1, 2} {
			p.Add(serial, 3)
			h, _ := p.Open(serial)
			for i := range 3 {
				p.Write(h, i, as)
			}
		}
		p.Crash(1, 0, 0, 1, 1, 0, 0, 1)
		for _, serial := range []int{1, 2, 3} {
			h, _ := p.Open(serial)
			for i := range 3 {
				s, _ := p.Read(h, i)
				told = append(told, s)
			}
		}
		return told
	}
	first := tell()
	for range 50 {
		if got := tell(); !slices.Equal(got, first) {
			t.Fatalf("P5.1: the same calls tell %q, and %q", first, got)
		}
	}
}
