package gate

import (
	"fmt"
	"maps"
	"strings"
	"testing"

	"bandolier/api"
	"bandolier/flash"
	"bandolier/medium"
	"bandolier/record"
	"bandolier/roster"
	"bandolier/store"
)

const (
	device = 5
	cache  = 11
)

// A ground is a pool with that device.
type ground struct {
	t    *testing.T
	p    *flash.Pool
	what string
}

func newGround(t *testing.T, size int) *ground {
	t.Helper()
	p := flash.New()
	if e := p.Add(device, size); e != api.OK {
		t.Fatalf("Add: %v", e)
	}
	return &ground{t: t, p: p}
}

func (g *ground) medium() *medium.Medium {
	g.t.Helper()
	m, e := medium.Of(g.p, device)
	if e != api.OK {
		g.t.Fatalf("Of: %v", e)
	}
	return m
}

// goesWell does do within a Guard, of which nothing is to come up.
func (g *ground) goesWell(do func()) {
	g.t.Helper()
	if b, is := medium.Guard(do); is {
		g.t.Fatalf("P16.1: %s: broken off: %v", g.what, b)
	}
}

// formats lets the device be a member's.
func (g *ground) formats(cache uint64, x roster.Member, per int) {
	g.t.Helper()
	m := g.medium()
	g.goesWell(func() { Format(m, cache, x, per) })
}

// sectors reads all of them.
func (g *ground) sectors() string {
	g.t.Helper()
	s, m := "", g.medium()
	g.goesWell(func() { s = m.Read(0, m.Size()) })
	return s
}

// writes lets a sector be s, for sure.
func (g *ground) writes(i int, s string) {
	g.t.Helper()
	m := g.medium()
	g.goesWell(func() { m.Write(i, s); m.Flush() })
}

func (g *ground) isJudged(why string, r roster.Roster, per int, want Standing) {
	g.t.Helper()
	if s := Judge(g.p, r, device, per); s != want {
		g.t.Fatalf("%s: %s: it is %d, not %d", why, g.what, s, want)
	}
}

// enters answers the store of what is to be a Member.
func (g *ground) enters(r roster.Roster, per int) *store.Store {
	g.t.Helper()
	s, is := Enter(g.p, r, device, per)
	if s == nil || is != Member {
		g.t.Fatalf("P16.1: %s: Enter: %v, it is %d", g.what, s, is)
	}
	return s
}

// entersNot tells if it isn't one.
func (g *ground) entersNot(why string, r roster.Roster, per int, want Standing) {
	g.t.Helper()
	g.isJudged(why, r, per, want)
	if s, is := Enter(g.p, r, device, per); s != nil || is != want {
		g.t.Fatalf("%s: %s: Enter: %v, it is %d, not %d", why, g.what, s, is, want)
	}
}

// puts puts values of those keys, and into has what there is of them.
func (g *ground) puts(s *store.Store, has map[string]string, keys ...string) {
	g.t.Helper()
	for _, key := range keys {
		version := uint64(len(has) + 1)
		e := record.Entry{Key: key, Version: version, Kind: record.Value, Value: fmt.Sprint(key, " of ", g.what)}
		g.goesWell(func() { s.Put(e) })
		has[key] = e.Value
	}
}

// held answers what a store has of each key.
func (g *ground) held(s *store.Store) map[string]string {
	g.t.Helper()
	has := map[string]string{}
	g.goesWell(func() {
		for _, key := range s.Keys() {
			e, _ := s.Read(key)
			has[key] = e.Value
		}
	})
	return has
}

// holds: behind an Enter the store has just that.
func (g *ground) holds(why string, r roster.Roster, per int, has map[string]string) {
	g.t.Helper()
	if got := g.held(g.enters(r, per)); !maps.Equal(got, has) {
		g.t.Fatalf("%s: %s: the store has %v, not %v", why, g.what, got, has)
	}
}

// of answers a roster with that device, of that Join, as a member.
func of(cache, join uint64) roster.Roster {
	return roster.Roster{Cache: cache, Joins: join, Members: []roster.Member{member(join)}}
}

func member(join uint64) roster.Member {
	return roster.Member{Serial: device, Join: join, State: roster.Active}
}

// A breach is how a call is broken off: by a failure of the operation behind
// after further ones (done or not), or by a halt there.
type breach struct {
	after      int
	done, halt bool
}

func breaches(after int) []breach {
	return []breach{{after, false, false}, {after, true, false}, {after, false, true}}
}

// strikes lets the pool fail by b.
func (g *ground) strikes(b breach) {
	if b.halt {
		g.p.Halt(b.after)
	} else {
		g.p.Arm(device, b.after, b.done)
	}
}

// calms: what didn't strike isn't to strike what comes behind.
func (g *ground) calms() {
	g.p.Halt(-1)
	g.p.Arm(device, 1<<40, false)
}

// breaks does do while the pool fails by b: was it broken off?
func (g *ground) breaks(b breach, do func()) bool {
	g.t.Helper()
	g.strikes(b)
	told, is := medium.Guard(do)
	if is && (told.Serial != device || !b.halt && told.Err != api.ErrIO || b.halt && told.Err != api.ErrDown) {
		g.t.Errorf("P16.1: %s: broken off by %v", g.what, told)
	}
	if !is {
		g.calms()
	}
	return is
}

// filled: a sector of that byte.
func filled(b byte) string { return strings.Repeat(string([]byte{b}), api.Sector) }
