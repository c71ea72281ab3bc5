package room

import (
	"bytes"
	"slices"

	"sherd/api"
)

// EachShort calls check with lists of sectors that are without some of theirs: the last ones, with these as spare room and without, the first ones, or one of them.
func EachShort(all [][]byte, check func(short [][]byte)) {
	for n := range all {
		check(all[:n])
		check(all[:n:n])
		check(all[n+1:])
		check(slices.Delete(slices.Clone(all), n, n+1))
	}
}

// EachSpoilt calls check with sectors, all of them unlike, of which another list is in one's place, two have changed places, one is there twice, or a list that is no sector is ahead of all, and with what was done; none of that begins with the sectors.
func EachSpoilt(all [][]byte, check func(spoilt [][]byte, how string)) {
	for k := range all {
		for _, other := range othersFor(all, k) {
			spoilt := slices.Clone(all)
			spoilt[k] = other
			check(spoilt, "another list in one's place")
		}
		for other := range k {
			spoilt := slices.Clone(all)
			spoilt[k], spoilt[other] = all[other], all[k]
			check(spoilt, "two have changed places")
		}
		if k < len(all)-1 { // the last one twice would be the sectors, and one behind them
			check(slices.Insert(slices.Clone(all), k, all[k]), "one is there twice")
		}
	}
	for _, other := range NoSectors() {
		check(slices.Insert(slices.Clone(all), 0, other), "a list is ahead")
	}
}

// othersFor tells lists for one of some sectors: such as are no sector, itself cut off or with more bytes, and the others of these sectors.
func othersFor(all [][]byte, k int) [][]byte {
	own := bytes.Clone(all[k])
	others := append(NoSectors(), own[:api.Sector-1], own[:api.Payload], own[:1], own[1:], append(bytes.Clone(own), 0), append([]byte{0}, own...), slices.Concat(own, own))
	for n, other := range all {
		if n != k {
			others = append(others, bytes.Clone(other))
		}
	}
	return slices.DeleteFunc(others, func(other []byte) bool { return bytes.Equal(other, own) })
}
