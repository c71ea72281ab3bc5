package room

import "slices"

// mostBallot is the greatest number that has room in four bytes.
const mostBallot = 1<<32 - 1

// Ballots tells numbers that have room in four bytes, rising: the least and the greatest ones, those about where one more byte begins, and such all of whose bytes are unlike.
func Ballots() []int {
	return []int{0, 1, 2, 3, 127, 128, 255, 256, 257, 258, 1<<16 - 1, 1 << 16, 1<<16 + 1, 1<<24 - 1, 1 << 24, 1<<24 + 1, 0x01020304, 0x04030201, 1<<31 - 1, 1 << 31, 1<<31 + 1, 0xfffefdfc, mostBallot - 1, mostBallot}
}

// WrongBallots tells numbers that have no room in four bytes, or are below 0; the lower bytes of some are those of others that have.
func WrongBallots() []int {
	all := append(Ends(), mostBallot+1, mostBallot+2, mostBallot+3, mostBallot+259, 2*mostBallot+1, 2*mostBallot+2, 1<<40+5, 1<<48+1, -mostBallot, -mostBallot-1, -mostBallot-2, -3)
	return slices.DeleteFunc(all, func(n int) bool { return 0 <= n && n <= mostBallot })
}
