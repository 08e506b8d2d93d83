package crew

import (
	"fmt"
	"math/rand"
	"slices"
	"testing"

	"bandolier/api"
	"bandolier/flash"
	"bandolier/roster"
	"bandolier/store"
)

// A plain model of the chapter: what fails, fails by its first operation in a
// call, and then nothing of that is done.
type model struct {
	devices map[int]*modelDevice
	said    roster.Roster // by the anchor; Cache 0: it has no text
	crew    *modelCrew    // nil: none yet
	fails   map[int]bool  // in the next call
	written bool          // the anchor fails where it is written, though it can be read
}

type modelDevice struct {
	sectors, session int
	there            bool
	cache, join      uint64
	keys             []string
}

type modelCrew struct {
	r             roster.Roster
	sessions      map[int]int // of the anchor, and of those with a store
	next          uint64
	stopped       bool
	changes, outs int
}

func (m *model) isThere(n int) bool { return m.devices[n] != nil && m.devices[n].there }

// takes: does the device still do what the crew asks of it?
func (m *model) takes(c *modelCrew, n int) bool {
	return m.isThere(n) && m.devices[n].session == c.sessions[n] && !m.fails[n]
}

func (m *model) write(c *modelCrew, r roster.Roster) bool {
	if c.stopped || m.written || !m.takes(c, anchor) {
		c.stopped = true
		return false
	}
	m.said, c.r = r, r
	return true
}

func (m *model) enters(n int, r roster.Roster) bool {
	x, is := r.Find(n)
	return is && m.isThere(n) && !m.fails[n] && m.devices[n].cache == r.Cache && m.devices[n].join == x.Join
}

func (m *model) formatOf(r roster.Roster, n int) bool {
	if m.fails[n] {
		return false
	}
	d := m.devices[n]
	x, _ := r.Find(n)
	d.cache, d.join, d.keys = r.Cache, x.Join, nil
	return true
}

func (m *model) begin() *modelCrew {
	return &modelCrew{sessions: map[int]int{anchor: m.devices[anchor].session}}
}

func (m *model) format(serials []int) api.Errno {
	l := slices.Clone(serials)
	slices.Sort(l)
	for i, n := range l {
		if n < 1 || n > 1000 || n == anchor || i > 0 && l[i-1] == n {
			return api.ErrArg
		}
	}
	if len(l) == 0 {
		return api.ErrArg
	}
	for _, n := range append([]int{anchor}, l...) {
		if !m.isThere(n) {
			return api.ErrGone
		}
	}
	for _, n := range l {
		if m.devices[n].sectors < 17 {
			return api.ErrSize
		}
	}
	if m.fails[anchor] {
		return api.ErrIO
	}
	r := roster.Roster{Cache: 1}
	if m.said.Cache > 0 {
		r = m.said.Fresh()
	}
	for _, n := range l {
		r, _ = r.Add(n)
	}
	c := m.begin()
	c.next = max(r.Lease, 1)
	r = r.Extend()
	for _, n := range l {
		if !m.formatOf(r, n) {
			return api.ErrIO
		}
	}
	if !m.write(c, r) {
		return api.ErrUnavailable
	}
	for _, n := range l {
		c.sessions[n] = m.devices[n].session
	}
	m.crew = c
	return api.OK
}

func (m *model) open() api.Errno {
	switch {
	case !m.isThere(anchor):
		return api.ErrGone
	case m.fails[anchor]:
		return api.ErrIO
	case m.said.Cache == 0:
		return api.ErrNone
	}
	c, r := m.begin(), m.said
	for _, n := range m.said.All() {
		if m.enters(n, m.said) {
			c.sessions[n] = m.devices[n].session
		} else {
			r, _ = r.Remove(n)
		}
	}
	c.next = max(r.Lease, 1)
	if !m.write(c, r.Extend()) {
		return api.ErrUnavailable
	}
	m.crew = c
	return api.OK
}

func (m *model) do(n int, key string) bool {
	c := m.crew
	if _, is := c.r.Find(n); !is || c.stopped {
		return false
	}
	if m.takes(c, n) {
		d := m.devices[n]
		if !slices.Contains(d.keys, key) {
			d.keys = append(d.keys, key)
			slices.Sort(d.keys)
		}
		return true
	}
	if r, _ := c.r.Remove(n); m.write(c, r) {
		delete(c.sessions, n)
		c.changes++
		c.outs++
	}
	return false
}

func (m *model) version() (uint64, bool) {
	c := m.crew
	if c.stopped || c.next == c.r.Lease && !m.write(c, c.r.Extend()) {
		return 0, false
	}
	c.next++
	return c.next - 1, true
}

func (m *model) add(n int) api.Errno {
	c := m.crew
	if c.stopped {
		return api.ErrStopped
	}
	if n == anchor {
		return api.ErrArg
	}
	r, e := c.r.Add(n)
	switch {
	case e != api.OK:
		return e
	case !m.isThere(n):
		return api.ErrGone
	case m.devices[n].sectors < 17:
		return api.ErrSize
	case !m.formatOf(r, n):
		return api.ErrIO
	case !m.write(c, r):
		return api.ErrUnavailable
	}
	c.sessions[n] = m.devices[n].session
	c.changes++
	return api.OK
}

// goes: Drain, or Leave.
func (m *model) goes(n int, leaves bool) api.Errno {
	c := m.crew
	if c.stopped {
		return api.ErrStopped
	}
	r, e := c.r.Drain(n)
	if leaves {
		r, e = c.r.Remove(n)
	}
	if e != api.OK {
		return e
	}
	if !m.write(c, r) {
		return api.ErrUnavailable
	}
	if leaves {
		delete(c.sessions, n)
	}
	c.changes++
	return api.OK
}

// A walk makes the same calls of both, and remembers them.
type walk struct {
	*ground
	r     *rand.Rand
	m     *model
	c     *Crew
	calls []string
}

func newWalk(t *testing.T, r *rand.Rand) *walk {
	w := &walk{ground: &ground{t: t, p: flash.New()}, r: r, m: &model{devices: map[int]*modelDevice{}}}
	for n, sectors := range map[int]int{anchor: 32, 2: 33, 3: 17, 4: 33, 5: 50, 6: 16} {
		w.adds(n, sectors)
		w.m.devices[n] = &modelDevice{sectors: sectors, there: true}
	}
	return w
}

func (w *walk) is(call string, got, want any) {
	w.t.Helper()
	w.calls = append(w.calls, fmt.Sprint(call, " ", got))
	if got != want {
		w.t.Fatalf("P17.1: %v: not %v", w.calls[max(0, len(w.calls)-30):], want)
	}
}

func (w *walk) serial() int { return []int{-1, 0, 1, 2, 2, 3, 3, 4, 4, 5, 5, 6, 7, 1001}[w.r.Intn(14)] }

// arms lets some devices fail in the next call, which is to read the anchor
// first, or not.
func (w *walk) arms(reads bool) string {
	w.m.fails, w.m.written = map[int]bool{}, false
	for n := range 7 {
		if w.m.devices[n] != nil && w.r.Intn(12) == 0 {
			w.m.fails[n] = true
			w.p.Arm(n, 0, false)
		}
	}
	if reads && !w.m.fails[anchor] && w.r.Intn(8) == 0 {
		w.m.written = true
		w.p.Arm(anchor, 32, false)
	}
	return fmt.Sprint("fails ", w.m.fails, w.m.written, ": ")
}

func (w *walk) makes() {
	what := w.arms(true)
	if w.r.Intn(3) > 0 {
		c, e := Open(w.p, config)
		w.is(what+"Open", e, w.m.open())
		w.becomes(c, e)
		return
	}
	var serials []int
	for range 1 + w.r.Intn(4) {
		serials = append(serials, w.serial())
	}
	c, e := Format(w.p, config, serials)
	w.is(fmt.Sprint(what, "Format ", serials), e, w.m.format(serials))
	w.becomes(c, e)
}

func (w *walk) becomes(c *Crew, e api.Errno) {
	w.t.Helper()
	if (c != nil) != (e == api.OK) {
		w.t.Fatalf("P17.1: %v: a crew: %v", w.calls, c != nil)
	}
	w.c = c // the elder one is asked no more: the devices may be another cache's
}

func (w *walk) asks() {
	n, what := w.serial(), w.arms(false)
	switch w.r.Intn(9) {
	case 0, 1:
		w.is(fmt.Sprint(what, "Add ", n), w.c.Add(n), w.m.add(n))
	case 2:
		w.is(fmt.Sprint(what, "Drain ", n), w.c.Drain(n), w.m.goes(n, false))
	case 3:
		w.is(fmt.Sprint(what, "Leave ", n), w.c.Leave(n), w.m.goes(n, true))
	case 4:
		w.asksVersions(what)
	default:
		key := fmt.Sprint("k", w.r.Intn(5))
		w.is(fmt.Sprint(what, "Do ", n, key), w.c.Do(n, w.putsOnce(n, key)), w.m.do(n, key))
	}
}

func (w *walk) asksVersions(what string) {
	for range 1 + w.r.Intn(40) {
		v, is := w.c.Version()
		want, wanted := w.m.version()
		w.is(what+"Version", fmt.Sprint(v, is), fmt.Sprint(want, wanted))
	}
}

// putsOnce puts a key that isn't there yet (else nothing has to go for it), and
// asks the device in any case.
func (w *walk) putsOnce(n int, key string) func(s *store.Store) {
	return func(s *store.Store) {
		if _, is := s.Get(key); !is {
			putting(key, 1)(s)
		} else {
			s.Read(key)
		}
	}
}

// event: a device comes or goes, or all crashes.
func (w *walk) event() {
	n := w.serial()
	d := w.m.devices[n]
	switch w.r.Intn(3) {
	case 0:
		w.p.Crash()
		w.is("Crash", 0, 0)
		for _, d := range w.m.devices {
			d.session++
		}
	case 1:
		if d != nil && n != anchor || w.r.Intn(3) == 0 {
			w.is(fmt.Sprint("Detach ", n), w.p.Detach(n) == api.OK, w.m.isThere(n))
			if d != nil {
				d.there = false
			}
		}
	default:
		for n := range 7 {
			if d := w.m.devices[n]; d != nil && !d.there {
				w.is(fmt.Sprint("Attach ", n), w.p.Attach(n), api.OK)
				d.there, d.session = true, d.session+1
			}
		}
	}
}

// look asks all that changes nothing.
func (w *walk) look() {
	w.t.Helper()
	if w.p.There(anchor) {
		if said := w.saidRoster(); !same(said, w.m.said) {
			w.t.Fatalf("P17.1: %v: the anchor says %v, not %v", w.calls[max(0, len(w.calls)-30):], said, w.m.said)
		}
	}
	if w.c == nil {
		return
	}
	c := w.m.crew
	if !same(w.c.Roster(), c.r) || w.c.Stopped() != c.stopped || w.c.Changes() != c.changes || w.c.Outs() != c.outs {
		w.t.Fatalf("P17.1: %v: %v, stopped %v, %d Changes, %d Outs, not %+v", w.calls[max(0, len(w.calls)-30):], w.c.Roster(), w.c.Stopped(), w.c.Changes(), w.c.Outs(), *c)
	}
	var members []int
	for n := range 1002 {
		_, has := c.sessions[n]
		if has = has && n != anchor; has {
			members = append(members, n)
		}
		s := w.c.Store(n)
		if has != (s != nil) || has && !c.stopped && w.m.takes(c, n) && !slices.Equal(s.Keys(), w.m.devices[n].keys) {
			w.t.Fatalf("P17.1: %v: device %d: a store: %v", w.calls[max(0, len(w.calls)-30):], n, s != nil)
		}
	}
	if !slices.Equal(w.c.Members(), members) || w.c.Config() != config {
		w.t.Fatalf("P17.1: %v: the members are %v, not %v", w.calls[max(0, len(w.calls)-30):], w.c.Members(), members)
	}
}

// Any calls, and any failures, held against the plain model.
func TestRandomCalls(t *testing.T) {
	r := rand.New(rand.NewSource(171))
	for range 300 {
		w := newWalk(t, r)
		for range 60 {
			switch x := r.Intn(10); {
			case x == 0:
				w.event()
			case w.c == nil || x == 1:
				w.makes()
			case w.c.Stopped() && x < 6:
				w.makes()
			default:
				w.asks()
			}
			w.calms(anchor, 2, 3, 4, 5, 6)
			w.m.fails, w.m.written = nil, false
			w.look()
		}
	}
}
