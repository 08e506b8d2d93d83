package gate

import (
	"bandolier/api"
	"bandolier/heads"
	"bandolier/medium"
)

// nought counts as a whole sector of noughts.
const nought = "\x00"

// forget takes away all by which a log of that cache and join would find
// groups: for the most part there is nothing, as each joining has a Join of its
// own. While it goes, sector by sector, the device is nobody's: what is still
// there may be elder than what is gone. The last flush is for what was gone
// ahead of this, too: that may have been loose.
func forget(m *medium.Medium, cache, join uint64) {
	l := led(m, cache, join)
	if len(l) > 0 {
		m.Write(place, nought)
		m.Flush()
	}
	for _, i := range l {
		m.Write(i, nought)
	}
	m.Flush()
}

// led answers the sectors that lead to groups of that cache and join, wherever
// they are: the log's Numbers begin anew behind this, and those of a Commit
// that stayed, of whatever segments, might come again.
func led(m *medium.Medium, cache, join uint64) []int {
	var l []int
	for i := range m.Size() {
		if leads(m.Read(i, 1), cache, join) {
			l = append(l, i)
		}
	}
	return l
}

// leads: is the sector a Head, or a Commit, of that cache and join?
func leads(sector string, cache, join uint64) bool {
	if h, e := heads.ToHead(sector); e == api.OK {
		return h.Cache == cache && h.Join == join
	}
	c, e := heads.ToCommit(sector)
	return e == api.OK && c.Cache == cache && c.Join == join
}
