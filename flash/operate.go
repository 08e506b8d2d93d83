package flash

import "bandolier/api"

// countdown waits for an operation. The zero one waits for none.
type countdown struct {
	waits bool
	left  int // operations ahead of the one that it waits for
}

// due answers if this operation is the one; if it isn't, that is one nearer.
func (c *countdown) due() bool {
	if !c.waits {
		return false
	}
	if c.left > 0 {
		c.left--
		return false
	}
	c.waits = false
	return true
}

// Arm lets the device's operation behind after further ones fail. Each device
// has its own: arming one leaves the others as they are.
func (p *Pool) Arm(serial, after int, done bool) api.Errno {
	d := p.find(serial)
	if d == nil {
		return api.ErrNone
	}
	d.arm = countdown{waits: true, left: max(after, 0)}
	d.armDone = done
	return api.OK
}

// Halt lets the pool be down behind after further operations.
func (p *Pool) Halt(after int) {
	p.halt = countdown{waits: after >= 0, left: after}
}

// Read answers a sector.
func (p *Pool) Read(h Handle, i int) (string, api.Errno) {
	var s string
	e := p.operate(h, func(d *device) api.Errno {
		return inRange(d, i)
	}, func(d *device) {
		s = d.read(i)
	})
	if e != api.OK { // an armed one may have read
		return "", e
	}
	return s, api.OK
}

// Write makes a sector s, and loose.
func (p *Pool) Write(h Handle, i int, s string) api.Errno {
	return p.operate(h, func(d *device) api.Errno {
		if e := inRange(d, i); e != api.OK {
			return e
		}
		if len(s) != api.Sector {
			return api.ErrSize
		}
		return api.OK
	}, func(d *device) {
		d.write(i, s)
	})
}

// Flush lets none of the device's sectors be loose.
func (p *Pool) Flush(h Handle) api.Errno {
	return p.operate(h, func(*device) api.Errno {
		return api.OK
	}, func(d *device) {
		d.flush()
	})
}

func inRange(d *device, i int) api.Errno {
	if !d.has(i) {
		return api.ErrRange
	}
	return api.OK
}

// operate makes one operation, in the chapter's order of errors: wrong says
// what is the matter with its arguments, do does it. The pool goes down at an
// operation that has no other error, not ahead of it: those that have one in
// between still tell their own.
func (p *Pool) operate(h Handle, wrong func(d *device) api.Errno, do func(d *device)) api.Errno {
	if p.down {
		return api.ErrDown
	}
	d := p.find(h.Serial)
	if d == nil || !d.there || d.session != h.Session {
		return api.ErrGone
	}
	if e := wrong(d); e != api.OK {
		return e
	}
	if d.arm.due() {
		if d.armDone {
			do(d)
		}
		return api.ErrIO
	}
	if p.halt.due() {
		p.down = true
		return api.ErrDown
	}
	do(d)
	p.count++
	return api.OK
}
