package room

import (
	"bytes"
	"math"
	"slices"

	"sherd/api"
)

// Record tells a record of a kind that may be: all that one of its kind leaves open hangs on seed, and on how many bytes the share has, if it may have some.
func Record(kind, length, seed int) api.Record {
	names, ballots, b := Names(), Ballots()[1:], Some(5, seed)
	ballot := func(k int) int { return ballots[int(b[k])%len(ballots)] }
	r := api.Record{Kind: kind, Name: names[int(b[0])%len(names)], Attempt: ballot(1), Epoch: ballot(2), Mark: ballot(3), Size: int(b[4]) % (api.MaxBlob + 1), Share: Some(length, seed+1)}
	switch kind {
	case api.Staged:
		r.Epoch, r.Mark = r.Attempt, 0
	case api.Hollow:
		r.Share = nil
	case api.Gone:
		r.Attempt, r.Epoch, r.Size, r.Share = 0, 0, 0, nil
	}
	return r
}

// Lengths tells how many bytes a share may have: the fewest and the most, and those about where one more body begins.
func Lengths() []int {
	return []int{0, 1, 2, 47, 48, 49, 95, 96, 97, 98, 143, 144, 145, 191, 192, 193, 239, 240}
}

// FewRecords tells a few records that may be, of each kind, of one sector to six.
func FewRecords() []api.Record {
	var all []api.Record
	for kind := api.Staged; kind <= api.Delta; kind++ {
		all = append(all, Record(kind, 0, 10+kind), Record(kind, 48, 20+kind), Record(kind, 49, 30+kind), Record(kind, 240, 40+kind))
	}
	return all
}

// RightRecords tells many records that may be: each kind with each of some lengths, and each with all that it leaves open at its ends.
func RightRecords() []api.Record {
	all := FewRecords()
	for kind := api.Staged; kind <= api.Delta; kind++ {
		for k, length := range Lengths() {
			all = append(all, Record(kind, length, 100*kind+k))
		}
		for k, s := range Names() {
			r := Record(kind, k, 200*kind+k)
			r.Name = s
			all = append(all, r)
		}
		all = append(all, atEnds(Record(kind, 50, 300+kind))...)
	}
	return all
}

// atEnds tells the records that may be which differ from one in one thing, which is at an end of what it may be there.
func atEnds(r api.Record) []api.Record {
	all := withBallots(r)
	if r.Kind == api.Gone {
		return all
	}
	for _, n := range []int{0, 1, 2, 127, 128, 239, 240} {
		all = append(all, with(r, func(r *api.Record) { r.Size = n }))
	}
	if r.Kind == api.Hollow {
		return append(all, with(r, func(r *api.Record) { r.Share = []byte{} }))
	}
	for _, n := range Lengths() {
		for _, share := range Tapes(n) {
			all = append(all, with(r, func(r *api.Record) { r.Share = share }))
		}
	}
	return all
}

// withBallots tells the records that may be which differ from one in one ballot, or in two that have to be the same.
func withBallots(r api.Record) []api.Record {
	changes := []func(r *api.Record, n int){
		func(r *api.Record, n int) { r.Attempt = n }, func(r *api.Record, n int) { r.Epoch = n }, func(r *api.Record, n int) { r.Mark = n },
	}
	switch r.Kind {
	case api.Gone:
		changes = changes[2:]
	case api.Staged:
		changes = []func(r *api.Record, n int){func(r *api.Record, n int) { r.Attempt, r.Epoch = n, n }}
	}
	var all []api.Record
	for _, n := range Ballots()[1:] {
		for _, change := range changes {
			all = append(all, with(r, func(r *api.Record) { change(r, n) }))
		}
	}
	return all
}

// with tells a record with some change.
func with(r api.Record, change func(r *api.Record)) api.Record {
	change(&r)
	return r
}

// WrongRecords tells many records that may not be, each near to one that may.
func WrongRecords() []api.Record {
	var all []api.Record
	for _, r := range FewRecords() {
		for _, s := range WrongNames() {
			all = append(all, with(r, func(r *api.Record) { r.Name = s }))
		}
		for _, n := range WrongBallots() {
			all = append(all, with(r, func(r *api.Record) { r.Attempt = n }), with(r, func(r *api.Record) { r.Epoch = n }), with(r, func(r *api.Record) { r.Mark = n }), with(r, func(r *api.Record) { r.Attempt, r.Epoch = n, n }))
		}
		for _, n := range wrongSizes() {
			all = append(all, with(r, func(r *api.Record) { r.Size = n }))
		}
		for _, n := range []int{241, 242, 255, 256, 257, 256 + 48, 480, 1 << 16, 1<<16 + 1, 1<<16 + 240} {
			all = append(all, with(r, func(r *api.Record) { r.Share = Some(n, n) }))
		}
		for _, n := range WrongKinds() {
			all = append(all, with(r, func(r *api.Record) { r.Kind = n }))
		}
		all = append(all, notAsItsKind(r)...)
	}
	return append(all, api.Record{}, api.Record{Name: "a"}, api.Record{Kind: math.MaxInt, Attempt: math.MaxInt, Epoch: math.MaxInt, Mark: math.MaxInt, Size: math.MaxInt})
}

// wrongSizes tells how many bytes no blob has; the lower bytes of some are as many as one may have.
func wrongSizes() []int {
	all := append(Ends(), 241, 242, 255, 256, 257, 496, 1<<16-1, 1<<16, 1<<16+1, 1<<16+240, wide+1, -240)
	return slices.DeleteFunc(all, func(n int) bool { return 0 <= n && n <= api.MaxBlob })
}

// WrongKinds tells numbers that are no kind of a record; the lower bytes of some are one's.
func WrongKinds() []int {
	all := append(Ends(), 0, 6, 7, 66, 72, 128, 255, 256, 257, 258, 259, 260, 261, 1<<16+1, wide+2, -3, -5)
	return slices.DeleteFunc(all, func(n int) bool { return api.Staged <= n && n <= api.Delta })
}

// notAsItsKind tells what differs from a record in what each of its kind must have.
func notAsItsKind(r api.Record) []api.Record {
	changes := []func(r *api.Record){
		func(r *api.Record) { r.Attempt = 0 }, func(r *api.Record) { r.Epoch = 0 }, func(r *api.Record) { r.Mark = 0 }, func(r *api.Record) { r.Attempt, r.Epoch = 0, 0 }, func(r *api.Record) { r.Attempt, r.Epoch, r.Mark = 0, 0, 0 },
	}
	switch r.Kind {
	case api.Staged:
		changes = []func(r *api.Record){
			func(r *api.Record) { r.Attempt = 0 }, func(r *api.Record) { r.Epoch = 0 }, func(r *api.Record) { r.Attempt, r.Epoch = 0, 0 },
			func(r *api.Record) { r.Epoch++ }, func(r *api.Record) { r.Epoch-- }, func(r *api.Record) { r.Epoch = r.Attempt%mostBallot + 1 },
			func(r *api.Record) { r.Mark = 1 }, func(r *api.Record) { r.Mark = r.Attempt }, func(r *api.Record) { r.Mark = mostBallot },
		}
	case api.Gone:
		changes = []func(r *api.Record){
			func(r *api.Record) { r.Mark = 0 }, func(r *api.Record) { r.Attempt = 1 }, func(r *api.Record) { r.Attempt = mostBallot }, func(r *api.Record) { r.Epoch = 1 }, func(r *api.Record) { r.Attempt, r.Epoch = r.Mark, r.Mark },
			func(r *api.Record) { r.Size = 1 }, func(r *api.Record) { r.Size = 240 },
		}
	}
	if r.Kind == api.Hollow || r.Kind == api.Gone {
		changes = append(changes, func(r *api.Record) { r.Share = []byte{0} }, func(r *api.Record) { r.Share = Some(48, 1) }, func(r *api.Record) { r.Share = Some(240, 1) })
	}
	var all []api.Record
	for _, change := range changes {
		all = append(all, with(r, change))
	}
	return all
}

// SameRecord tells whether two records are alike, field by field.
func SameRecord(a, b api.Record) bool {
	if !bytes.Equal(a.Share, b.Share) || a.Name != b.Name {
		return false
	}
	numbers := func(r api.Record) []int { return []int{r.Kind, r.Attempt, r.Epoch, r.Mark, r.Size} }
	return slices.Equal(numbers(a), numbers(b))
}

// RecordPayloads tells the head and the bodies of a record by their words, not filled up, and not sealed.
func RecordPayloads(r api.Record) [][]byte {
	name := append([]byte{byte(len(r.Name))}, r.Name...)
	name = append(name, make([]byte, 16-len(r.Name))...)
	head := slices.Concat([]byte{72, byte(r.Kind)}, name, fourBytes(r.Attempt), fourBytes(r.Epoch), fourBytes(r.Mark), []byte{byte(r.Size >> 8), byte(r.Size), byte(len(r.Share))})
	all := [][]byte{head}
	for number := 0; 48*number < len(r.Share); number++ {
		piece := r.Share[48*number : min(48*number+48, len(r.Share))]
		body := slices.Concat([]byte{66, byte(number), byte(r.Kind)}, fourBytes(r.Attempt), fourBytes(r.Epoch), []byte{byte(len(piece))}, piece)
		all = append(all, body)
	}
	return all
}

// fourBytes tells a number's lowest four bytes, the highest one first.
func fourBytes(n int) []byte {
	return []byte{byte(n >> 24), byte(n >> 16), byte(n >> 8), byte(n)}
}

// RecordSectors tells the sectors of a record by their words.
func RecordSectors(r api.Record) [][]byte {
	return AllSealed(RecordPayloads(r))
}
