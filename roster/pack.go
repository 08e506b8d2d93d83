package roster

import (
	"bandolier/api"
	"bandolier/octet"
)

// Pack answers the roster's bytes.
func (r Roster) Pack() string {
	var o octet.Out
	o.Num(r.Cache, 8).Num(r.Epoch, 8).Num(r.Lease, 8).Num(r.Joins, 8)
	o.Num(uint64(len(r.Members)), 1)
	for _, m := range r.Members {
		o.Num(uint64(m.Serial), 2).Num(m.Join, 8).Num(uint64(m.State), 1)
	}
	return o.Bytes()
}

// Unpack answers the roster whose bytes s is.
func Unpack(s string) (Roster, api.Errno) {
	var r Roster // stays zero where the taking is broken off
	_, e := octet.Take(s, func(in *octet.In) { r = take(in) })
	return r, e
}

// take takes a roster from all that in has. What is wrong is looked for in
// the order in which it is to be told, hence too many members ahead of theirs.
func take(in *octet.In) Roster {
	var r Roster
	r.Cache = in.Num(8)
	r.Epoch = in.Num(8)
	r.Lease = in.Num(8)
	r.Joins = in.Num(8)
	count := int(in.Num(1))
	if count > api.MaxDevices {
		in.Fail(api.ErrBig)
	}
	for range count {
		r.Members = append(r.Members, takeMember(in))
	}
	if in.Left() > 0 {
		in.Fail(api.ErrForm)
	}
	in.Fail(r.Check())
	return r
}

func takeMember(in *octet.In) Member {
	var m Member
	m.Serial = int(in.Num(2))
	m.Join = in.Num(8)
	m.State = int(in.Num(1))
	return m
}
