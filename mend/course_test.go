package mend

import (
	"fmt"
	"math/rand"
	"testing"

	"bandolier/api"
	"bandolier/crew"
	"bandolier/fetch"
	"bandolier/mutate"
)

// A past is what was done with a key: of each Put its text, of each Drop none;
// and which of them is the eldest that may be answered yet.
type past struct {
	texts []string
	least int
}

// A course is any calls, with anything failing, and crashes at any time.
type course struct {
	*ground
	r     *rand.Rand
	pasts map[string]*past
}

func (x *course) past(key string) *past {
	if x.pasts[key] == nil {
		x.pasts[key] = &past{texts: []string{""}}
	}
	return x.pasts[key]
}

// mutates: what answers OK puts an end to all ahead of it; what doesn't may have
// happened.
func (x *course) mutates(key, text string) {
	x.t.Helper()
	var o mutate.Outcome
	var e api.Errno
	if text == "" {
		e = mutate.Drop(x.c, key)
	} else {
		o, e = mutate.Put(x.c, key, text, 0)
	}
	p := x.past(key)
	if o == mutate.Dropped {
		text = ""
	}
	p.texts = append(p.texts, text)
	switch e {
	case api.OK:
		p.least = len(p.texts) - 1
	case api.ErrUnavailable:
	default:
		x.t.Fatalf("P20.2: %s: %v", x.what, e)
	}
}

// looks: each holder has the same as the others, and what hits is not ahead of
// what was acknowledged last, nor of what was answered once.
func (x *course) looks() {
	x.t.Helper()
	for key, p := range x.pasts {
		l := x.values(key)
		v, is, e := fetch.Get(x.c, key, 0)
		if e != api.OK || is != (len(l) == 1) || len(l) > 1 {
			x.t.Fatalf("P20.2: %s: of %q there is %q, Get answers %q, %v, %v", x.what, key, l, v, is, e)
		}
		if is {
			x.answered(key, p, v)
		}
	}
}

func (x *course) answered(key string, p *past, v string) {
	x.t.Helper()
	for i := p.least; i < len(p.texts); i++ {
		if v != "" && p.texts[i] == v {
			p.least = i
			return
		}
	}
	x.t.Fatalf("P20.2: %s: of %q there is %q, but may be %q", x.what, key, v, p.texts[p.least:])
}

// fails lets something fail, now and then.
func (x *course) fails() {
	switch x.r.Intn(12) {
	case 0, 1:
		x.p.Arm(2+x.r.Intn(5), x.r.Intn(12), x.r.Intn(2) == 0)
	case 2:
		x.p.Arm(anchor, x.r.Intn(6), x.r.Intn(2) == 0)
	case 3, 4:
		x.p.Halt(x.r.Intn(25))
	case 5:
		x.p.Detach(2+x.r.Intn(5), x.choices()...)
	case 6, 7:
		x.p.Attach(2 + x.r.Intn(5))
	}
}

func (x *course) choices() []int {
	l := make([]int, x.r.Intn(12))
	for i := range l {
		l[i] = x.r.Intn(2)
	}
	return l
}

// starts: behind a crash Opens, of which some are broken off, and crash anew.
func (x *course) starts() {
	x.t.Helper()
	for range x.r.Intn(3) {
		x.p.Crash(x.choices()...)
		x.p.Attach(anchor)
		if x.r.Intn(2) == 0 {
			x.p.Halt(x.r.Intn(300))
		} else {
			x.fails()
		}
		c, n, e := Open(x.p, x.c.Config())
		if e == api.OK {
			x.c = c
			if x.r.Intn(2) == 0 {
				x.member()
			}
		} else if c != nil || n != 0 {
			x.t.Fatalf("P20.2: %s: %d beside %v", x.what, n, e)
		}
	}
	x.calms()
	x.p.Crash(x.choices()...)
	x.opens()
	x.looks()
	x.opensAsItWas(x.choices()...)
	x.looks()
}

// member: one comes, goes, or is to go.
func (x *course) member() {
	n := 2 + x.r.Intn(5)
	switch x.r.Intn(6) {
	case 0:
		x.c.Drain(n)
	case 1:
		x.c.Leave(n)
	default:
		x.p.Attach(n)
		x.c.Add(n)
	}
}

func (x *course) step(i int) {
	x.t.Helper()
	x.what = fmt.Sprint("step ", i)
	key := fmt.Sprint("k", x.r.Intn(5))
	x.fails()
	switch x.r.Intn(8) {
	case 0:
		x.member()
	case 1:
		if !x.c.Stopped() {
			x.mutates(key, "")
		}
	case 2, 3, 4, 5:
		if !x.c.Stopped() {
			x.mutates(key, fmt.Sprint("v", i, long[:x.r.Intn(len(long))]))
		}
	case 6:
		if v, is, _ := fetch.Get(x.c, key, 0); is {
			x.answered(key, x.past(key), v)
		}
	case 7:
		x.starts()
		return
	}
	if x.c.Stopped() {
		x.isStopped()
		x.starts()
		return
	}
	x.calms()
	if !mutate.Whole(x.c) {
		x.t.Fatalf("P20.2: %s: it isn't Whole", x.what)
	}
}

var long = fmt.Sprintf("%0100d", 0)

// Courses of all calls, with failures, and crashes in the midst of any of them:
// what hits is right, and nothing that was over is back.
func TestCourses(t *testing.T) {
	r := rand.New(rand.NewSource(20))
	for i := range 600 {
		sectors := []int{17, 25, 33, 65}[i%4]
		g := newGroundOf(t, crew.Config{Anchor: anchor, Copies: 1 + r.Intn(4), Per: 8}, sectors, 5)
		x := &course{g, r, map[string]*past{}}
		for i := range 50 {
			x.step(i)
		}
	}
}
