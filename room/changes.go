package room

import (
	"bytes"
	"math"
	"slices"

	"sherd/api"
)

// journalBodies is how many bodies a journal has, and bodyText how many bytes of a text each of them.
const (
	journalBodies = 32
	bodyText      = 58
)

// FullChange tells a change with a sector's bytes, which hang on its place.
func FullChange(at int) api.Change {
	return api.Change{At: at, Data: Some(api.Sector, at)}
}

// Changes tells so many changes with bytes, and so many without, mixed, of sectors that are unlike; all of it hangs on seed beside that alone.
func Changes(full, bare, seed int) []api.Change {
	var l []api.Change
	for k, at := range changePlaces(seed)[:full+bare] {
		c := api.Change{At: at}
		if k < full {
			c = FullChange(at)
		}
		l = append(l, c)
	}
	mix(l, seed+1)
	return l
}

// changePlaces tells all sectors that a change may be of, in an order that hangs on seed alone.
func changePlaces(seed int) []int {
	all := []int{0}
	for at := 34; at < 512; at++ {
		all = append(all, at)
	}
	mix(all, seed)
	return all
}

// mix puts a list in another order, which hangs on seed alone.
func mix[T any](l []T, seed int) {
	for k, b := range Some(len(l), seed) {
		other := int(b) % (k + 1)
		l[k], l[other] = l[other], l[k]
	}
}

// RightChanges tells many changes that may be: the fewest and the most, those about where one more body begins, and such as have bytes 0.
func RightChanges() [][]api.Change {
	zeros, greatest := make([]byte, api.Sector), bytes.Repeat([]byte{255}, api.Sector)
	full := FullChange
	all := [][]api.Change{
		nil, {}, {{At: 0}}, {{At: 34}}, {{At: 511}}, {{At: 0, Data: []byte{}}}, {full(0)}, {full(34)}, {full(511)}, {full(256)},
		{{At: 40, Data: zeros}}, {{At: 40, Data: greatest}}, {{At: 0}, {At: 40, Data: zeros}, {At: 41}}, {{At: 41}, {At: 40}, {At: 39, Data: greatest}, {At: 0}},
		{full(0), {At: 511}, full(34)}, {{At: 511}, {At: 34}, {At: 0}}, {{At: 256}, {At: 255}, {At: 257}, full(258)},
	}
	for bare := range 80 {
		all = append(all, Changes(0, bare, bare), Changes(1, bare, bare))
	}
	for given := range 28 {
		all = append(all, Changes(given, 0, given), Changes(given, (journalBodies*bodyText-2-67*given)/3%479, given), Changes(given, 9, given))
	}
	return append(all, Changes(0, 479, 1), Changes(0, 478, 2), Changes(6, 473, 3), Changes(27, 15, 1), Changes(27, 15, 2))
}

// FewChanges tells a few changes that may be, of 1 to 32 bodies.
func FewChanges() [][]api.Change {
	return [][]api.Change{nil, {{At: 34}}, {FullChange(511)}, {FullChange(0), {At: 511}, FullChange(34)}, Changes(1, 15, 1), Changes(9, 30, 2), Changes(0, 479, 3), Changes(27, 15, 4)}
}

// WrongPlaces tells numbers of sectors that no change may be of; the lower bytes of some are one's.
func WrongPlaces() []int {
	all := append(Ends(), 1, 2, 3, 31, 32, 33, 512, 513, 545, 546, 1023, 1024, 1<<16-1, 1<<16, 1<<16+34, 1<<16+511, 1<<32, 1<<32+34, 1<<32+511, -34, -511, -512, -478, math.MinInt+34, math.MinInt+511)
	return slices.DeleteFunc(all, func(at int) bool { return at == 0 })
}

// EachFaulty calls check with changes that may not be, of each set of their four errors, and some that may be, with the first error that applies.
func EachFaulty(check func(l []api.Change, want api.Errno)) {
	for seed := range 200 {
		for set := range 16 {
			elsewhere, twice, torn, many := set&1 != 0, set&2 != 0, set&4 != 0, set&8 != 0
			want := api.OK
			switch {
			case elsewhere:
				want = api.ErrRange
			case twice:
				want = api.ErrTwice
			case torn:
				want = api.ErrForm
			case many:
				want = api.ErrFull
			}
			check(faulty(elsewhere, twice, torn, many, seed), want)
		}
	}
}

// faulty tells changes of which some of the four errors apply, mixed, which hang on seed beside that alone.
func faulty(elsewhere, twice, torn, many bool, seed int) []api.Change {
	l := Changes(2, 3, seed)
	if many {
		l = Changes(28, 3, seed)
	}
	if elsewhere {
		at := WrongPlaces()[seed%len(WrongPlaces())]
		l = append(l, []api.Change{{At: at}, FullChange(at), {At: at, Data: make([]byte, 5)}}[seed%3])
	}
	if torn {
		l[seed%len(l)].Data = make([]byte, 1+seed%63)
	}
	if twice {
		l = append(l, l[seed%5])
	}
	mix(l, seed+1)
	return l
}

// SameChanges tells whether two lists have the same changes.
func SameChanges(a, b []api.Change) bool {
	return slices.EqualFunc(a, b, func(c, d api.Change) bool { return c.At == d.At && bytes.Equal(c.Data, d.Data) })
}

// MarkedChanges tells changes with marked spare room behind each one's bytes, and behind the list, and what tells whether all of that is as it was.
func MarkedChanges(l []api.Change) ([]api.Change, func() bool) {
	marked := slices.Concat(l, []api.Change{FullChange(170), {At: 171}})
	var rows [][]byte
	for _, c := range marked {
		rows = append(rows, c.Data)
	}
	lists, unchanged := Rows(rows...)
	for k := range marked {
		marked[k].Data = lists[k]
	}
	before := slices.Clone(marked)
	return marked[:len(l)], func() bool {
		isOne := func(c, d api.Change) bool { return c.At == d.At && isList(c.Data, d.Data) }
		return unchanged() && slices.EqualFunc(marked, before, isOne)
	}
}

// ChangesText tells the text of changes by its words.
func ChangesText(l []api.Change) []byte {
	text := []byte{byte(len(l) >> 8), byte(len(l))}
	for _, c := range l {
		text = append(text, byte(c.At>>8), byte(c.At))
		if len(c.Data) == 0 {
			text = append(text, 0)
		} else {
			text = append(append(text, 1), c.Data...)
		}
	}
	return text
}

// TextPayloads tells the head and the bodies of a text, whatever it is, by their words, not filled up, and not sealed.
func TextPayloads(text []byte) [][]byte {
	n := len(text) / bodyText
	if len(text)%bodyText != 0 {
		n++
	}
	sum := Sum(text)
	all := [][]byte{{106, byte(n), byte(len(text) >> 8), byte(len(text)), byte(sum >> 24), byte(sum >> 16), byte(sum >> 8), byte(sum)}}
	for k := range n {
		all = append(all, append([]byte{98, byte(k)}, text[bodyText*k:min(bodyText*(k+1), len(text))]...))
	}
	return all
}

// ChangesSectors tells the sectors of changes by their words.
func ChangesSectors(l []api.Change) [][]byte {
	return AllSealed(TextPayloads(ChangesText(l)))
}

// JournalWrites tells the sectors that the journal writes when it does changes, one by one, and what they become, by its words.
func JournalWrites(l []api.Change) []api.Change {
	if len(l) == 0 {
		return nil
	}
	sectors := ChangesSectors(l)
	bodies := sectors[1:]
	var all []api.Change
	for k, b := range bodies {
		all = append(all, api.Change{At: 2 + k, Data: b})
	}
	all = append(all, api.Change{At: 1, Data: sectors[0]})
	all = append(all, l...)
	all = append(all, api.Change{At: 1})
	for k := range bodies {
		all = append(all, api.Change{At: 2 + k})
	}
	return all
}

// Written tells a disk's bytes behind some writes.
func Written(image []byte, writes []api.Change) []byte {
	image = bytes.Clone(image)
	for _, c := range writes {
		own := image[api.Sector*c.At : api.Sector*c.At+api.Sector]
		clear(own)
		copy(own, c.Data)
	}
	return image
}
