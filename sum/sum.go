// Package sum is layer 2: see shared/doc/02-sum.md.
package sum

// turn is what a sum is xored with whenever a 1 leaves it.
const turn uint32 = 0x82F63B78

// Of: of texts.
func Of(l ...string) uint32 {
	var all uint32 // the sum of no bytes: all 1, turned
	for _, s := range l {
		all = On(all, s)
	}
	return all
}

// On: going on.
func On(sum uint32, s string) uint32 {
	sum = ^sum // a sum that was told had its bits turned at last
	for i := range len(s) {
		sum = eight(sum ^ uint32(s[i]))
	}
	return ^sum
}

// Table: of each byte.
func Table() [256]uint32 {
	var t [256]uint32
	for b := range len(t) {
		t[b] = eight(uint32(b))
	}
	return t
}

// eight moves a sum by eight bits. The byte is xored in ahead of it, all bits
// at once: till one of them is the lowest, it is only moved.
func eight(sum uint32) uint32 {
	for range 8 {
		low := sum & 1
		sum >>= 1
		if low == 1 {
			sum ^= turn
		}
	}
	return sum
}
