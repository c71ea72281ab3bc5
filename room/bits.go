package room

import "bytes"

// Turned tells a list some of whose bits in order, from one on, are turned: those that the mask says, as far as there are any.
func Turned(list []byte, bit int, mask uint64) []byte {
	list = bytes.Clone(list)
	for k := bit; mask != 0 && k < 8*len(list); k++ {
		list[k/8] ^= byte(mask&1) << (k % 8)
		mask >>= 1
	}
	return list
}

// Masks tells masks of bits, the first one and the last of which are wide bits in order from one another: of few bits all, of more, at most 64, some, which hang on wide and seed alone.
func Masks(wide, seed int) []uint64 {
	last := uint64(1) << (wide - 1)
	ends, between := 1|last, (last-1)&^1
	var all []uint64
	if wide <= 9 {
		for mask := uint64(0); mask <= between; mask += 2 {
			all = append(all, ends|mask)
		}
		return all
	}
	for _, mask := range append(picked(12, seed), 0, between, 0x5555555555555555, 0x3333333333333333) {
		all = append(all, ends|mask&between)
	}
	return all
}

// near is how many bits in order, from one on, may turn so that a sum of 32 bits tells it.
const near = 32

// EachTurn calls check with copies of a list, from each of whose bits on some that are near it are turned, with the first of these, and the mask that says which.
func EachTurn(list []byte, check func(turned []byte, bit int, mask uint64)) {
	for bit := range 8 * len(list) {
		for wide := 1; wide <= min(near, 8*len(list)-bit); wide++ {
			for _, mask := range Masks(wide, bit) {
				check(Turned(list, bit, mask), bit, mask)
			}
		}
	}
}

// picked tells some numbers, which hang on seed alone.
func picked(count, seed int) []uint64 {
	all := make([]uint64, count)
	for k, b := range Some(8*count, seed) {
		all[k/8] = all[k/8]<<8 | uint64(b)
	}
	return all
}
