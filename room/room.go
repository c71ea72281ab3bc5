// Package room is for the tests of all layers: lists to hand in, whether they were changed, their spare room too, whether lists are alike, or share memory; plans that may be and that may not be, custodians in some order, numbers of no custodian, sizes of blobs, and numbers of stripes; names and texts that are none, numbers that have room in four bytes and that have not; lists some of whose bits are turned, and lists of sectors that are spoilt; changes of sectors that may be and that may not be, lists that are no sectors; what the journal writes for changes, and a disk's bytes behind writes; what a node may know of itself and what not; records that may be and that may not be; messages that may be and that may not be, numbers that are no kind of one and no node's; arithmetic of bytes, sums, sealed sectors, the sectors of changes, of what a node knows of itself and of records, and the bytes of messages by their words.
package room

import (
	"bytes"
	"slices"
)

// Some tells a list of n bytes of all kinds, which hang on seed alone.
func Some(n, seed int) []byte {
	list := make([]byte, n)
	state := uint32(seed)*2654435761 + 12345
	for k := range list {
		state = state*1664525 + 1013904223
		list[k] = byte(state >> 24) // the lower bits come again too soon
	}
	return list
}

// Lists tells count lists of size bytes each, which hang on seed alone.
func Lists(count, size, seed int) [][]byte {
	all := make([][]byte, count)
	for k := range all {
		all[k] = Some(size, 1000*seed+k)
	}
	return all
}

// Tapes tells some of n bytes: mixed ones, noughts, and the greatest ones.
func Tapes(n int) [][]byte {
	return [][]byte{Some(n, n+1), make([]byte, n), bytes.Repeat([]byte{255}, n)}
}

// Same tells whether two lists of lists are alike.
func Same(a, b [][]byte) bool {
	return slices.EqualFunc(a, b, bytes.Equal)
}

// Of tells a list of some bytes with marked spare room behind it, and what tells whether all of that is as it was.
func Of(p ...byte) ([]byte, func() bool) {
	return Marked(p, 170, 171, 172, 173)
}

// Texts tells a list of some texts with marked spare room behind it, and what tells whether all of that is as it was.
func Texts(p ...string) ([]string, func() bool) {
	return Marked(p, "spare 0", "spare 1", "spare 2", "spare 3")
}

// Numbers tells a list of some numbers with marked spare room behind it, and what tells whether all of that is as it was.
func Numbers(p ...int) ([]int, func() bool) {
	return Marked(p, -170, -171, -172, -173)
}

// Marked tells a list of some things with marks in spare room behind it, and what tells whether all of that is as it was.
func Marked[T comparable](p []T, marks ...T) ([]T, func() bool) {
	whole := slices.Concat(p, marks)
	before := slices.Clone(whole)
	return whole[:len(p)], func() bool { return slices.Equal(whole, before) }
}

// Rows tells a list of lists of some bytes, each with marked spare room behind it, the list of them too, and what tells whether all of that is as it was.
func Rows(rows ...[]byte) ([][]byte, func() bool) {
	var list [][]byte
	var unchanged []func() bool
	for _, row := range append(slices.Clone(rows), []byte{174}, []byte{175}) {
		marked, same := Of(row...)
		list = append(list, marked)
		unchanged = append(unchanged, same)
	}
	before := slices.Clone(list)
	return list[:len(rows)], func() bool {
		for k, same := range unchanged {
			if !isList(list[k], before[k]) || !same() {
				return false
			}
		}
		return true
	}
}

// isList tells whether two lists, which have spare room, are one.
func isList(a, b []byte) bool {
	return len(a) == len(b) && cap(a) == cap(b) && cap(a) > 0 && &whole(a)[0] == &whole(b)[0]
}

// Shared tells the first place of a list that shares memory with one ahead of it, or -1; it writes over the lists.
func Shared(lists ...[]byte) int {
	kept := make([][]byte, len(lists))
	for k, list := range lists {
		kept[k] = bytes.Clone(whole(list))
	}
	for k, list := range lists {
		if !bytes.Equal(whole(list), kept[k]) {
			return k
		}
		turn(whole(list))
	}
	return -1
}

// whole tells a list with its spare room, as a later append would write there.
func whole(list []byte) []byte {
	return list[:cap(list)]
}

// turn changes each byte.
func turn(list []byte) {
	for k := range list {
		list[k] ^= 255
	}
}
