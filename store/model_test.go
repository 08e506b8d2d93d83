package store

import (
	"fmt"
	"slices"
	"strings"
	"testing"

	"bandolier/api"
	"bandolier/flash"
	"bandolier/medium"
	"bandolier/record"
	"bandolier/seglog"
)

const (
	device      = 4
	cache, join = 11, 22
)

// sized: a text that lets an entry of that key have n sectors (n from 1 on).
func sized(key string, n int) string {
	room := 63*n - (1 + 1 + 8 + 8 + 2 + 2 + 4) - len(key)
	return strings.Repeat("v", min(room, api.MaxValue))
}

// value: one of that key and version, of n sectors.
func value(key string, version uint64, n int) record.Entry {
	return record.Entry{Key: key, Version: version, Kind: record.Value, Expiry: int(version % 5), Value: sized(key, n)}
}

func tomb(key string, version uint64) record.Entry {
	return record.Entry{Key: key, Version: version, Kind: record.Tomb}
}

// A ground is a device with a store on it.
type ground struct {
	t         *testing.T
	p         *flash.Pool
	segs, per int
	what      string
}

func newGround(t *testing.T, segs, per int) *ground {
	t.Helper()
	p := flash.New()
	if e := p.Add(device, 1+segs*per); e != api.OK {
		t.Fatalf("Add: %v", e)
	}
	return &ground{t: t, p: p, segs: segs, per: per}
}

func (g *ground) medium() *medium.Medium {
	g.t.Helper()
	m, e := medium.Of(g.p, device)
	if e != api.OK {
		g.t.Fatalf("Of: %v", e)
	}
	return m
}

// goesWell does do within a Guard, of which nothing is to come up.
func (g *ground) goesWell(do func()) {
	g.t.Helper()
	if b, is := medium.Guard(do); is {
		g.t.Fatalf("P14.1: %s: broken off: %v", g.what, b)
	}
}

func (g *ground) open() *Store {
	g.t.Helper()
	var s *Store
	m := g.medium()
	g.goesWell(func() { s = Open(m, cache, join, g.segs, g.per) })
	return s
}

// log opens what lies beneath the store.
func (g *ground) log() *seglog.Log {
	g.t.Helper()
	var l *seglog.Log
	m := g.medium()
	g.goesWell(func() { l, _ = seglog.Open(m, cache, join, g.segs, g.per) })
	return l
}

// sectors reads all of them.
func (g *ground) sectors() string {
	g.t.Helper()
	s, m := "", g.medium()
	g.goesWell(func() { s = m.Read(0, m.Size()) })
	return s
}

// A piece is an entry, at its place; or a group that is no entry.
type piece struct {
	at, n int
	e     record.Entry
	none  bool
}

// A segment is what one has, in order.
type segment struct {
	seg    int
	pieces []piece
}

func (s segment) end() int {
	end := 1
	for _, p := range s.pieces {
		end = p.at + 1 + p.n
	}
	return end
}

// A model is what a store has, by the chapter's words, as plain data.
type model struct {
	segs, per      int
	live           []segment // the eldest one first
	hot, hidden    map[string]bool
	evicted, moved int
}

func newModel(segs, per int) *model {
	return &model{segs: segs, per: per, hot: map[string]bool{}, hidden: map[string]bool{}}
}

// clone: the same, of which what is kept in memory is forgotten, or not.
func (m *model) clone(forget bool) *model {
	x := newModel(m.segs, m.per)
	for _, s := range m.live {
		x.live = append(x.live, segment{s.seg, slices.Clone(s.pieces)})
	}
	if forget {
		return x
	}
	x.evicted, x.moved = m.evicted, m.moved
	for k := range m.hot {
		x.hot[k] = true
	}
	for k := range m.hidden {
		x.hidden[k] = true
	}
	return x
}

// opened: what is there when it is opened anew.
func (m *model) opened() *model {
	x := m.clone(true)
	if len(x.live) == x.segs {
		x.live = x.live[1:]
	}
	return x
}

// last: where a key's last entry is.
func (m *model) last(key string) (segment, piece, bool) {
	for _, s := range slices.Backward(m.live) {
		for _, p := range slices.Backward(s.pieces) {
			if !p.none && p.e.Key == key {
				return s, p, true
			}
		}
	}
	return segment{}, piece{}, false
}

func (m *model) slot(key string) (Slot, bool) {
	s, p, is := m.last(key)
	if !is {
		return Slot{}, false
	}
	return Slot{p.e.Version, p.e.Kind, p.e.Expiry, seglog.Loc{Seg: s.seg, At: p.at, N: p.n}, m.hot[key], m.hidden[key]}, true
}

func (m *model) keys() []string {
	var keys []string
	for _, s := range m.live {
		for _, p := range s.pieces {
			if !p.none && !slices.Contains(keys, p.e.Key) {
				keys = append(keys, p.e.Key)
			}
		}
	}
	slices.Sort(keys)
	return keys
}

// places: which segments are live.
func (m *model) places() []int {
	var all []int
	for _, s := range m.live {
		all = append(all, s.seg)
	}
	return all
}

func (m *model) read(key string) (record.Entry, bool) {
	_, p, is := m.last(key)
	if is {
		m.hot[key] = true
	}
	return p.e, is
}

func (m *model) hide(key string) {
	if _, _, is := m.last(key); is {
		m.hidden[key] = true
	}
}

func (m *model) room(n int) bool {
	return len(m.live) > 0 && m.live[len(m.live)-1].end()+n < m.per
}

func (m *model) start() {
	for seg := range m.segs {
		if !slices.ContainsFunc(m.live, func(s segment) bool { return s.seg == seg }) {
			m.live = append(m.live, segment{seg: seg})
			return
		}
	}
}

func (m *model) append(p piece) {
	s := &m.live[len(m.live)-1]
	p.at = s.end()
	s.pieces = append(s.pieces, p)
	delete(m.hot, p.e.Key)
	delete(m.hidden, p.e.Key)
}

// put puts an entry, and answers what there is on the way: ahead of it, behind
// each thing that is done, and at last.
func (m *model) put(e record.Entry) []*model {
	way := []*model{m.clone(false)}
	done := func() { way = append(way, m.clone(false)) }
	n := len(e.Pack()) / 63
	if !m.room(n) {
		m.start()
		done()
		if len(m.live) == m.segs {
			m.letGo(done)
		}
	}
	m.append(piece{n: n, e: e})
	done()
	return way
}

// letGo: the eldest segment goes.
func (m *model) letGo(done func()) {
	took := 0
	for _, p := range m.live[0].pieces {
		slot, _ := m.slot(p.e.Key)
		if p.none || slot.At != (seglog.Loc{Seg: m.live[0].seg, At: p.at, N: p.n}) || slot.Kind != 1 || !slot.Hot || slot.Hidden {
			continue
		}
		if took+p.n+1 > m.per/4 {
			break
		}
		took += p.n + 1
		m.append(piece{n: p.n, e: p.e})
		m.moved++
		done()
	}
	ahead := m.keys()
	m.live = m.live[1:]
	left := m.keys()
	m.evicted += len(ahead) - len(left)
	for _, key := range ahead {
		if !slices.Contains(left, key) {
			delete(m.hot, key)
			delete(m.hidden, key)
		}
	}
	done()
}

// differs: in what has the store something else than the model? "": in nothing.
func differs(s *Store, m *model) string {
	keys := m.keys()
	if !slices.Equal(s.Keys(), keys) || s.Len() != len(keys) {
		return fmt.Sprintf("keys %q (%d), not %q", s.Keys(), s.Len(), keys)
	}
	for _, key := range append(keys, "", "none", strings.Repeat("k", 25)) {
		got, is := s.Get(key)
		if want, isThere := m.slot(key); got != want || is != isThere {
			return fmt.Sprintf("Get(%q) is %v, %v, not %v, %v", key, got, is, want, isThere)
		}
	}
	if s.Evicted() != m.evicted || s.Moved() != m.moved {
		return fmt.Sprintf("%d evicted, %d moved, not %d, %d", s.Evicted(), s.Moved(), m.evicted, m.moved)
	}
	return ""
}

// is: the store is as the model says.
func (g *ground) is(s *Store, m *model) {
	g.t.Helper()
	if bad := differs(s, m); bad != "" {
		g.t.Fatalf("P14.1: %s: %s", g.what, bad)
	}
}

// reads: each entry is read as the model has it. (So all are hot.)
func (g *ground) reads(s *Store, m *model) {
	g.t.Helper()
	g.goesWell(func() {
		for _, key := range append(m.keys(), "none", "") {
			got, is := s.Read(key)
			if want, isThere := m.read(key); got != want || is != isThere {
				g.t.Fatalf("P14.1: %s: Read(%q) is %v, %v, not %v, %v", g.what, key, got, is, want, isThere)
			}
		}
	})
	g.is(s, m)
}

// opensAs: opened anew, the store is one of these; which one.
func (g *ground) opensAs(promise string, models ...*model) int {
	g.t.Helper()
	s, bad := g.open(), ""
	live := g.log().Live()
	for i, m := range models {
		if bad = differs(s, m); bad == "" && !slices.Equal(live, m.places()) {
			bad = fmt.Sprintf("live are %v, not %v", live, m.places())
		}
		if bad == "" {
			g.reads(s, m.clone(false))
			return i
		}
	}
	g.t.Fatalf("%s: %s: none of %d: %s", promise, g.what, len(models), bad)
	return -1
}

// puts puts an entry into both.
func (g *ground) puts(s *Store, m *model, l ...record.Entry) {
	g.t.Helper()
	for _, e := range l {
		g.goesWell(func() { s.Put(e) })
		m.put(e)
		g.is(s, m)
		if g.p.Loose(device) != 0 {
			g.t.Errorf("P14.2: %s: Put leaves %d sectors loose", g.what, g.p.Loose(device))
		}
	}
}

// heats reads these keys of both.
func (g *ground) heats(s *Store, m *model, keys ...string) {
	g.t.Helper()
	g.goesWell(func() {
		for _, key := range keys {
			got, is := s.Read(key)
			if want, isThere := m.read(key); got != want || is != isThere {
				g.t.Fatalf("P14.1: %s: Read(%q) is %v, %v", g.what, key, got, is)
			}
		}
	})
	g.is(s, m)
}
