// Package mix is layer 1: see shared/doc/01-mix.md.
package mix

// round is one step of Mix: a number xor it moved down, then times a factor.
type round struct {
	down  uint
	times uint64
	back  uint64 // times by back is 1, modulo 2^64: so a round can be undone
}

// The last round has no product of its own: times 1 leaves it as it is.
var rounds = [3]round{
	{30, 0xbf58476d1ce4e5b9, 0x96de1b173f119089},
	{27, 0x94d049bb133111eb, 0x319642b2d24d8ec3},
	{31, 1, 1},
}

// Mix: a number, mixed.
func Mix(x uint64) uint64 {
	for _, r := range rounds {
		x = (x ^ x>>r.down) * r.times
	}
	return x
}

// Back: and back.
func Back(x uint64) uint64 {
	for i := range len(rounds) {
		r := rounds[len(rounds)-1-i]
		x = unfold(x*r.back, r.down)
	}
	return x
}

// unfold finds the number that, xored with itself moved down, is x.
// Each turn doubles how many of the upper bits are right again.
func unfold(x uint64, down uint) uint64 {
	for by := down; by < 64; by *= 2 {
		x ^= x >> by
	}
	return x
}

// Text: of a text.
func Text(s string, seed uint64) uint64 {
	x := Mix(seed + uint64(len(s)))
	for i := range len(s) {
		x = Mix(x ^ uint64(s[i]))
	}
	return x
}

// Pair: of two numbers.
func Pair(a, b uint64) uint64 {
	return Mix(a ^ Mix(b))
}
