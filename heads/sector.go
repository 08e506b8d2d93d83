package heads

import (
	"bandolier/api"
	"bandolier/octet"
	"bandolier/sum"
)

const (
	sumBytes = 4
	bodySize = api.Sector - sumBytes // what is ahead of the sum
)

// sector answers the sector of that mark whose fields write writes.
func sector(mark uint64, write func(o *octet.Out)) string {
	var o octet.Out
	o.Num(mark, 1)
	write(&o)
	body := o.Fill(bodySize).Bytes()
	return body + tail(body)
}

// read tells what take took of the sector s of that mark. Behind the fields
// there must be noughts: else several sectors would say the same.
func read[T any](s string, mark uint64, take func(in *octet.In) T) (T, api.Errno) {
	var x T // stays zero where the taking is broken off
	if len(s) != api.Sector {
		return x, api.ErrSize
	}
	body := s[:bodySize]
	if s[bodySize:] != tail(body) {
		return x, api.ErrSum
	}
	_, e := octet.Take(body, func(in *octet.In) {
		if in.Num(1) != mark {
			in.Fail(api.ErrForm)
		}
		y := take(in)
		in.Zero()
		x = y
	})
	return x, e
}

// tail answers the sum of a body, as it stands behind it.
func tail(body string) string {
	return new(octet.Out).Num(uint64(sum.Of(body)), sumBytes).Bytes()
}
