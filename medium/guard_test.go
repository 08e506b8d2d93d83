package medium

import (
	"errors"
	"math"
	"runtime"
	"slices"
	"testing"

	"bandolier/api"
	"bandolier/octet"
)

func TestGuardDoes(t *testing.T) {
	times := 0
	if b, is := Guard(func() { times++ }); b != (Broken{}) || is || times != 1 {
		t.Errorf("P6.1: Guard: %v, %v, done %d times", b, is, times)
	}
}

func TestFail(t *testing.T) {
	for _, serial := range []int{math.MinInt, -1, 0, 1, 1000, 1001, math.MaxInt} {
		isDone(t, "P6.1: Fail of OK", func() { Fail(serial, api.OK) })
		for e := api.ErrArg; e <= api.ErrBig; e++ {
			isBroken(t, "P6.1: Fail", serial, e, func() { Fail(serial, e) })
		}
		for _, e := range []api.Errno{math.MinInt, -1, 19, math.MaxInt} {
			isBroken(t, "P6.1: Fail", serial, e, func() { Fail(serial, e) })
		}
	}
	Fail(1, api.OK) // outside a Guard, too, nothing is done
}

func TestGuardEndsAtOnce(t *testing.T) {
	_, m, other := twoOf(t)
	var steps []string
	deeper := func() {
		defer func() { steps = append(steps, "deferred") }()
		m.Write(0, "a")
		steps = append(steps, "written")
		other.Read(sectors, 1)
		steps = append(steps, "beyond")
	}
	isBroken(t, "P6.2: which device failed", 3, api.ErrRange, func() {
		for range 3 {
			deeper()
			steps = append(steps, "behind")
		}
	})
	if !slices.Equal(steps, []string{"written", "deferred"}) {
		t.Errorf("P6.2: wherever in do: %v", steps)
	}
	isThere(t, "P6.2: what was done ahead stays", m, 0, sectorOf("a"))
}

func TestToldOnce(t *testing.T) {
	p, m, _ := twoOf(t)
	p.Arm(2, 0, false)
	isBroken(t, "P6.2", 2, api.ErrIO, m.Flush)
	isDone(t, "P6.2: it is told once", func() {})
	isDone(t, "P6.2: it is told once", m.Flush)
	isDone(t, "P6.2: the Guard around goes on", func() {
		isBroken(t, "P6.2", 2, api.ErrFull, func() { Fail(2, api.ErrFull) })
	})
}

func TestGuardWithinGuard(t *testing.T) {
	p, m, other := twoOf(t)
	p.Arm(2, 0, false)
	p.Arm(3, 1, false)
	var steps []string
	isBroken(t, "P6.2: the outer one takes what fails in its own", 3, api.ErrIO, func() {
		isBroken(t, "P6.2: the inner one takes what fails in its own", 2, api.ErrIO, func() {
			isDone(t, "P6.2: the inmost one", other.Flush)
			m.Flush()
		})
		steps = append(steps, "goes on")
		isDone(t, "P6.2: the next inner one", m.Flush)
		other.Flush()
		steps = append(steps, "beyond")
	})
	if !slices.Equal(steps, []string{"goes on"}) {
		t.Errorf("P6.2: a Guard within another one's: %v", steps)
	}
	isBroken(t, "P6.2: told anew by who took it", 9, api.ErrStale, func() {
		b, is := Guard(func() { Fail(9, api.ErrStale) })
		if is {
			Fail(b.Serial, b.Err)
		}
	})
}

func TestGuardWithinWhatIsDeferred(t *testing.T) {
	_, m, other := twoOf(t)
	isBroken(t, "P6.2: the outer failure goes on", 2, api.ErrRange, func() {
		defer func() {
			isBroken(t, "P6.2: a Guard while do ends", 3, api.ErrRange, func() { other.Read(-1, 1) })
		}()
		m.Read(-1, 1)
	})
}

// panicOf answers what Guard let go on.
func panicOf(do func()) (p any) {
	defer func() { p = recover() }()
	Guard(do)
	return nil
}

func TestOtherPanicsGoOn(t *testing.T) {
	mine := errors.New("mine")
	for _, want := range []any{"text", 7, mine, api.ErrIO, api.OK, struct{}{}, Broken{}, Broken{Serial: 2, Err: api.ErrIO}} {
		if got := panicOf(func() { panic(want) }); got != want {
			t.Errorf("P6.2: a panic of %v goes on as %v", want, got)
		}
		if got := panicOf(func() { Guard(func() { panic(want) }); t.Errorf("P6.2: it was taken") }); got != want {
			t.Errorf("P6.2: a panic of %v, within two Guards, goes on as %v", want, got)
		}
	}
	var none []int
	if _, is := panicOf(func() { none[len(none)]++ }).(runtime.Error); !is {
		t.Errorf("P6.2: a panic of the language's own doesn't go on")
	}
	if _, is := panicOf(func() { panic(nil) }).(*runtime.PanicNilError); !is {
		t.Errorf("P6.2: a panic of nil doesn't go on")
	}
	if got := panicOf(func() {
		defer func() { panic("while it ends") }()
		Fail(2, api.ErrIO)
	}); got != "while it ends" {
		t.Errorf("P6.2: a panic while do ends goes on as %v", got)
	}
}

func TestFailuresDontPanicOutside(t *testing.T) {
	p, m, _ := twoOf(t)
	p.Detach(2)
	for _, do := range []func(){m.Flush, func() { m.Read(0, 1) }, func() { m.Write(0, "a") }, func() { Fail(1, api.ErrIO) }, func() { Fail(0, -1) }} {
		if got := panicOf(do); got != nil {
			t.Errorf("P1: Guard panics: %v", got)
		}
	}
	if got := panicOf(func() { m.Serial(); m.Size(); m.Read(0, 0); m.Write(0, ""); Fail(2, api.OK) }); got != nil {
		t.Errorf("P6.2: nothing else panics: %v", got)
	}
}

func TestOneDoesNotTakeTheOther(t *testing.T) {
	_, m, _ := twoOf(t)
	isBroken(t, "P6.2: through a taking of bytes", 2, api.ErrRange, func() {
		octet.Take("abc", func(*octet.In) { m.Read(sectors, 1) })
	})
	left, e := octet.Take("abc", func(in *octet.In) {
		Guard(func() { in.Num(4) })
		t.Errorf("P6.2: a taking of bytes was broken off, and goes on")
	})
	if left != "" || e != api.ErrEnd {
		t.Errorf("P6.2: what isn't of these calls goes on: %q, %v", left, e)
	}
}
