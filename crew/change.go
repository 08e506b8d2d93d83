package crew

import (
	"bandolier/api"
	"bandolier/flash"
	"bandolier/gate"
	"bandolier/medium"
	"bandolier/roster"
	"bandolier/slots"
	"bandolier/store"
)

// overAnchor answers a crew without a roster, and the text of its anchor.
func overAnchor(p *flash.Pool, c Config) (*Crew, string, bool, api.Errno) {
	w := &Crew{pool: p, config: c, stores: map[int]*store.Store{}}
	m, e := medium.Of(p, c.Anchor)
	if e != api.OK {
		return nil, "", false, api.ErrGone
	}
	var text string
	var is bool
	if _, broken := medium.Guard(func() { w.anchor, text, is = slots.Open(m) }); broken {
		return nil, "", false, api.ErrIO
	}
	return w, text, is, api.OK
}

// begin answers the roster that is to be written ahead of all versions. They
// go on at the Lease: below it, who knows which ones were answered ahead.
func (c *Crew) begin(r roster.Roster) roster.Roster {
	c.next = max(r.Lease, firstVersion)
	return r.Extend()
}

// entered lets the members of a roster that was found enter, and answers the
// roster of those that do.
func (c *Crew) entered(r roster.Roster) roster.Roster {
	left := r
	for _, n := range r.All() {
		if s, _ := gate.Enter(c.pool, r, n, c.config.Per); s != nil {
			c.stores[n] = s
		} else {
			left, _ = left.Remove(n)
		}
	}
	return left
}

// enter lets a member enter, or it is out.
func (c *Crew) enter(serial int) {
	s, _ := gate.Enter(c.pool, c.roster, serial, c.config.Per)
	if s == nil {
		c.out(serial)
		return
	}
	c.stores[serial] = s
}

// format lets a device be a member's, whose roster isn't written yet.
func (c *Crew) format(cache uint64, x roster.Member) bool {
	m, e := medium.Of(c.pool, x.Serial)
	if e != api.OK {
		return false
	}
	_, broken := medium.Guard(func() { gate.Format(m, cache, x, c.config.Per) })
	return !broken
}

// write lets the anchor say who belongs to the crew from now on. If it fails,
// the crew is stopped for ever: none knows any more what the anchor says.
func (c *Crew) write(r roster.Roster) bool {
	if c.stopped {
		return false
	}
	var e api.Errno
	_, broken := medium.Guard(func() { e = c.anchor.Write(r.Pack()) })
	if broken || e != api.OK {
		c.stopped = true
		return false
	}
	c.roster = r
	return true
}

// changed writes a roster with other members, or other states.
func (c *Crew) changed(r roster.Roster) bool {
	if !c.write(r) {
		return false
	}
	c.changes++
	return true
}

// leave lets a member be none any more, once the anchor says so.
func (c *Crew) leave(serial int) api.Errno {
	r, e := c.roster.Remove(serial)
	if e != api.OK {
		return e
	}
	if !c.changed(r) {
		return api.ErrUnavailable
	}
	delete(c.stores, serial)
	return api.OK
}

// out lets a member that failed be none any more.
func (c *Crew) out(serial int) {
	if c.leave(serial) == api.OK {
		c.outs++
	}
}

// Do does something with a member's store. (A nil do does nothing.)
func (c *Crew) Do(serial int, do func(s *store.Store)) bool {
	s := c.stores[serial]
	if s == nil || c.stopped {
		return false
	}
	if do == nil {
		return true
	}
	b, broken := medium.Guard(func() { do(s) })
	if broken {
		c.out(c.whoFailed(b.Serial, serial))
	}
	return !broken
}

// whoFailed answers the member whose device broke off what was done with
// another one's store: for the most part that is the same one. (If it is no
// member's, what was done counts as failed by itself: whoever does it anew
// with all members comes to an end.)
func (c *Crew) whoFailed(device, serial int) int {
	if c.stores[device] != nil {
		return device
	}
	return serial
}

// Version answers the next version. None is answered that the anchor doesn't
// cover by its Lease.
func (c *Crew) Version() (uint64, bool) {
	if c.stopped || c.next >= c.roster.Lease && !c.write(c.roster.Extend()) {
		return 0, false
	}
	v := c.next
	c.next++
	return v, true
}

// Add lets a device be a member. It is formatted ahead of that: so none is a
// member with what it had.
func (c *Crew) Add(serial int) api.Errno {
	r, e := c.mayAdd(serial)
	if e != api.OK {
		return e
	}
	x, _ := r.Find(serial)
	if !c.format(r.Cache, x) {
		return api.ErrIO
	}
	if !c.changed(r) {
		return api.ErrUnavailable
	}
	c.enter(serial)
	return api.OK
}

// mayAdd answers the roster with that device, or what is wrong with it, as far
// as that is told without an operation.
func (c *Crew) mayAdd(serial int) (roster.Roster, api.Errno) {
	if c.stopped {
		return roster.Roster{}, api.ErrStopped
	}
	if serial == c.config.Anchor {
		return roster.Roster{}, api.ErrArg
	}
	r, e := c.roster.Add(serial)
	if e != api.OK {
		return roster.Roster{}, e
	}
	if !c.pool.There(serial) {
		return roster.Roster{}, api.ErrGone
	}
	if c.config.short(c.pool, serial) {
		return roster.Roster{}, api.ErrSize
	}
	return r, api.OK
}

// Drain lets a member be one that is to go.
func (c *Crew) Drain(serial int) api.Errno {
	if c.stopped {
		return api.ErrStopped
	}
	r, e := c.roster.Drain(serial)
	if e != api.OK {
		return e
	}
	if !c.changed(r) {
		return api.ErrUnavailable
	}
	return api.OK
}

// Leave lets a member be none any more.
func (c *Crew) Leave(serial int) api.Errno {
	if c.stopped {
		return api.ErrStopped
	}
	return c.leave(serial)
}
