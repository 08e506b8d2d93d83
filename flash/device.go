package flash

import (
	"cmp"
	"slices"

	"bandolier/api"
)

type sector [api.Sector]byte

// past is which sector is loose, and what it was when it last wasn't.
type past struct {
	at  int
	was sector
}

type device struct {
	serial, session int
	there           bool
	sectors         []sector
	loose           []past // by rising sectors: so choices meet them
	arm             countdown
	armDone         bool // what the armed operation was to do is done
}

func (d *device) has(i int) bool { return 0 <= i && i < len(d.sectors) }

func (d *device) read(i int) string { return string(d.sectors[i][:]) }

// write keeps what the sector was only if it isn't loose yet: a crash goes
// back to what was sure, not to what was written between.
func (d *device) write(i int, s string) {
	place, is := slices.BinarySearchFunc(d.loose, i, func(l past, i int) int {
		return cmp.Compare(l.at, i)
	})
	if !is {
		d.loose = slices.Insert(d.loose, place, past{at: i, was: d.sectors[i]})
	}
	copy(d.sectors[i][:], s)
}

func (d *device) flush() { d.loose = nil }

// settle lets each loose sector stay, or be what it was, by the next choice.
// It answers the choices that are left, for the next device.
func (d *device) settle(choice []int) []int {
	for _, l := range d.loose {
		stays := false
		if len(choice) > 0 {
			stays = choice[0]%2 != 0
			choice = choice[1:]
		}
		if !stays {
			d.sectors[l.at] = l.was
		}
	}
	d.flush()
	return choice
}
