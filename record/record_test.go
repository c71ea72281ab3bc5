package record

import (
	"bytes"
	"encoding/binary"
	"math"
	"slices"
	"testing"

	"sherd/api"
	"sherd/crc"
	"sherd/label"
	"sherd/room"
)

var table = crc.New()

// most is the greatest Attempt, Epoch and Mark.
const most = 1<<32 - 1

// mayBe tells whether a record may be, by the document's words.
func mayBe(r api.Record) bool {
	for _, n := range []int{r.Attempt, r.Epoch, r.Mark} {
		if n < 0 || n > most {
			return false
		}
	}
	if !label.Right(r.Name) || r.Size < 0 || r.Size > 240 || len(r.Share) > 240 {
		return false
	}
	above := r.Attempt > 0 && r.Epoch > 0 && r.Mark > 0
	return r.Kind == 1 && r.Attempt > 0 && r.Epoch == r.Attempt && r.Mark == 0 ||
		r.Kind == 2 && above ||
		r.Kind == 3 && above && len(r.Share) == 0 ||
		r.Kind == 4 && r.Mark > 0 && r.Attempt == 0 && r.Epoch == 0 && r.Size == 0 && len(r.Share) == 0 ||
		r.Kind == 5 && above
}

// gets tells whether Get tells a record, of how many sectors, and true.
func gets(sectors [][]byte, want api.Record, count int) bool {
	got, n, ok := Get(table, sectors)
	return ok && n == count && room.SameRecord(got, want)
}

// getsNot tells whether Get tells nothing, 0, false.
func getsNot(sectors [][]byte) bool {
	got, n, ok := Get(table, sectors)
	return !ok && n == 0 && room.SameRecord(got, api.Record{})
}

// P20.1

// checkRight tells when Right is not what the document's words say, or Count and Put don't go with it.
func checkRight(t *testing.T, r api.Record) {
	t.Helper()
	want := mayBe(r)
	if got := Right(r); got != want {
		t.Errorf("Right of %v: %t", r, got)
	}
	sectors, e := Put(table, r)
	if want && (e != api.OK || len(sectors) == 0 || Count(r) != len(sectors)) || !want && (e != api.ErrForm || len(sectors) != 0 || Count(r) != 0) {
		t.Errorf("Put of %v: %d sectors, %d, and Count %d", r, len(sectors), e, Count(r))
	}
}

func TestRightOfKnownOnes(t *testing.T) {
	share := make([]byte, 240)
	for _, test := range []struct {
		r    api.Record
		want bool
	}{
		{api.Record{}, false}, {api.Record{Name: "a"}, false}, {api.Record{Name: "a", Attempt: 1, Epoch: 1, Mark: 1}, false},
		{api.Record{Kind: api.Staged, Name: "a", Attempt: 3, Epoch: 3}, true}, {api.Record{Kind: api.Staged, Name: "a", Attempt: most, Epoch: most, Size: 240, Share: share}, true},
		{api.Record{Kind: api.Staged, Name: "a"}, false}, {api.Record{Kind: api.Staged, Name: "a", Attempt: 3, Epoch: 4}, false}, {api.Record{Kind: api.Staged, Name: "a", Attempt: 4, Epoch: 3}, false}, {api.Record{Kind: api.Staged, Name: "a", Attempt: 3, Epoch: 3, Mark: 1}, false},
		{api.Record{Kind: api.Live, Name: "a", Attempt: 3, Epoch: 4, Mark: 5}, true}, {api.Record{Kind: api.Live, Name: "a", Attempt: 5, Epoch: 4, Mark: 3, Size: 1, Share: share}, true}, {api.Record{Kind: api.Live, Name: "a", Attempt: 3, Epoch: 4}, false}, {api.Record{Kind: api.Live, Name: "a", Attempt: 3, Mark: 5}, false}, {api.Record{Kind: api.Live, Name: "a", Epoch: 4, Mark: 5}, false},
		{api.Record{Kind: api.Hollow, Name: "a", Attempt: 3, Epoch: 4, Mark: 5, Size: 240}, true}, {api.Record{Kind: api.Hollow, Name: "a", Attempt: 3, Epoch: 4, Mark: 5, Share: []byte{}}, true}, {api.Record{Kind: api.Hollow, Name: "a", Attempt: 3, Epoch: 4, Mark: 5, Share: share[:1]}, false}, {api.Record{Kind: api.Hollow, Name: "a", Attempt: 3, Epoch: 4}, false},
		{api.Record{Kind: api.Gone, Name: "a", Mark: 5}, true}, {api.Record{Kind: api.Gone, Name: "a", Mark: 5, Share: []byte{}}, true}, {api.Record{Kind: api.Gone, Name: "a"}, false}, {api.Record{Kind: api.Gone, Name: "a", Mark: 5, Size: 1}, false}, {api.Record{Kind: api.Gone, Name: "a", Mark: 5, Share: share[:1]}, false}, {api.Record{Kind: api.Gone, Name: "a", Mark: 5, Attempt: 1}, false}, {api.Record{Kind: api.Gone, Name: "a", Mark: 5, Epoch: 1}, false},
		{api.Record{Kind: api.Delta, Name: "a", Attempt: 3, Epoch: 4, Mark: 5}, true}, {api.Record{Kind: api.Delta, Name: "a", Attempt: 3, Epoch: 4, Mark: 5, Share: share}, true}, {api.Record{Kind: api.Delta, Name: "a", Attempt: 3, Epoch: 4}, false},
		{api.Record{Kind: api.Live, Name: "", Attempt: 3, Epoch: 4, Mark: 5}, false}, {api.Record{Kind: api.Live, Name: "-a", Attempt: 3, Epoch: 4, Mark: 5}, false}, {api.Record{Kind: api.Live, Name: "abcdefghijklmnop", Attempt: 3, Epoch: 4, Mark: 5}, true}, {api.Record{Kind: api.Live, Name: "abcdefghijklmnopq", Attempt: 3, Epoch: 4, Mark: 5}, false},
		{api.Record{Kind: api.Live, Name: "a", Attempt: most + 1, Epoch: 4, Mark: 5}, false}, {api.Record{Kind: api.Live, Name: "a", Attempt: 3, Epoch: most + 2, Mark: 5}, false}, {api.Record{Kind: api.Live, Name: "a", Attempt: 3, Epoch: 4, Mark: most + 1}, false}, {api.Record{Kind: api.Live, Name: "a", Attempt: -1, Epoch: 4, Mark: 5}, false},
		{api.Record{Kind: api.Live, Name: "a", Attempt: 3, Epoch: 4, Mark: 5, Size: 241}, false}, {api.Record{Kind: api.Live, Name: "a", Attempt: 3, Epoch: 4, Mark: 5, Size: -1}, false}, {api.Record{Kind: api.Live, Name: "a", Attempt: 3, Epoch: 4, Mark: 5, Share: make([]byte, 241)}, false}, {api.Record{Kind: 6, Name: "a", Attempt: 3, Epoch: 4, Mark: 5}, false},
	} {
		if got := Right(test.r); got != test.want {
			t.Errorf("Right of %v: %t", test.r, got)
		}
		checkRight(t, test.r)
	}
}

func TestRightOfManyOnes(t *testing.T) {
	for _, r := range room.RightRecords() {
		if !Right(r) {
			t.Errorf("Right of %v: false", r)
		}
		checkRight(t, r)
	}
	for _, r := range room.WrongRecords() {
		if Right(r) {
			t.Errorf("Right of %v: true", r)
		}
		checkRight(t, r)
	}
}

func TestRightOfEachKind(t *testing.T) {
	kinds := room.WrongKinds()
	for kind := -300; kind < 70000; kind++ {
		kinds = append(kinds, kind)
	}
	for own := api.Staged; own <= api.Delta; own++ {
		r := room.Record(own, 1, own)
		for _, kind := range kinds {
			r.Kind = kind
			if got := Right(r); got != mayBe(r) {
				t.Errorf("Right of %v: %t", r, got)
			}
		}
	}
}

func TestRightOfEachSetOfNumbers(t *testing.T) {
	ballots := []int{math.MinInt, -1, 0, 1, 2, most, most + 1, most + 2, math.MaxInt}
	for _, share := range [][]byte{nil, {0}, make([]byte, 240), make([]byte, 241)} {
		for _, size := range []int{-1, 0, 1, 240, 241} {
			for _, attempt := range ballots {
				for _, epoch := range ballots {
					for _, mark := range ballots {
						for kind := range 7 {
							r := api.Record{Kind: kind, Name: "pot", Attempt: attempt, Epoch: epoch, Mark: mark, Size: size, Share: share}
							if got := Right(r); got != mayBe(r) {
								t.Errorf("Right of %v: %t", r, got)
							}
						}
					}
				}
			}
		}
	}
}

func TestRightOfEachSize(t *testing.T) {
	for kind := api.Staged; kind <= api.Delta; kind++ {
		r := room.Record(kind, 0, kind)
		for r.Size = -1000; r.Size < 70000; r.Size++ {
			if got := Right(r); got != mayBe(r) {
				t.Errorf("Right of %v: %t", r, got)
			}
		}
	}
}

func TestRightOfEachLength(t *testing.T) {
	lengths := []int{1 << 16, 1<<16 + 1, 1<<16 + 240, 1 << 20}
	for n := range 1000 {
		lengths = append(lengths, n)
	}
	for kind := api.Staged; kind <= api.Delta; kind++ {
		for _, n := range lengths {
			r := room.Record(kind, 0, kind)
			r.Share = make([]byte, n)
			checkRight(t, r)
		}
	}
}

func TestRightOfEachName(t *testing.T) {
	for kind := api.Staged; kind <= api.Delta; kind++ {
		r := room.Record(kind, 50, kind)
		for _, s := range slices.Concat(room.Names(), room.WrongNames()) {
			r.Name = s
			checkRight(t, r)
		}
	}
}

func TestRole(t *testing.T) {
	for kind, want := range map[int]int{api.Staged: 1, api.Live: 0, api.Hollow: 0, api.Gone: 0, api.Delta: 2} {
		if got := Role(kind); got != want {
			t.Errorf("Role of %d: %d", kind, got)
		}
	}
	others := room.WrongKinds()
	for kind := 6; kind < 70000; kind++ {
		others = append(others, kind, 5-kind)
	}
	for _, kind := range others {
		if got := Role(kind); got != -1 {
			t.Errorf("Role of %d: %d", kind, got)
		}
	}
}

func TestCount(t *testing.T) {
	for n := range 241 {
		want := 1
		for from := 0; from < n; from += 48 {
			want++
		}
		for _, kind := range []int{api.Staged, api.Live, api.Delta} {
			if got := Count(room.Record(kind, n, n)); got != want {
				t.Errorf("Count of one of kind %d with %d bytes: %d, want %d", kind, n, got, want)
			}
		}
	}
	for n, want := range map[int]int{0: 1, 1: 2, 48: 2, 49: 3, 96: 3, 97: 4, 240: 6} {
		if got := Count(room.Record(api.Live, n, 1)); got != want {
			t.Errorf("Count of one with %d bytes: %d, want %d", n, got, want)
		}
	}
	for seed := range 100 {
		if n, m := Count(room.Record(api.Hollow, 0, seed)), Count(room.Record(api.Gone, 0, seed)); n != 1 || m != 1 {
			t.Errorf("Count of a Hollow one, and of a Gone one: %d, %d", n, m)
		}
	}
	for _, r := range room.WrongRecords() {
		if n := Count(r); n != 0 {
			t.Errorf("Count of %v: %d", r, n)
		}
	}
}

func TestPutOfKnownOnes(t *testing.T) {
	rising := make([]byte, 49)
	for k := range rising {
		rising[k] = byte(k + 1)
	}
	for _, test := range []struct {
		r    api.Record
		want [][]byte
	}{
		{api.Record{Kind: api.Staged, Name: "a", Attempt: 1, Epoch: 1}, [][]byte{
			room.Filled([]byte{72, 1, 1, 97, 0, 0, 0, 0, 0, 0, 0, 0, 0, 0, 0, 0, 0, 0, 0, 0, 0, 0, 1, 0, 0, 0, 1}, 76, 16, 38, 37),
		}},
		{api.Record{Kind: api.Live, Name: "ab", Attempt: 258, Epoch: 3, Mark: 4, Size: 60, Share: rising}, [][]byte{
			room.Filled([]byte{72, 2, 2, 97, 98, 0, 0, 0, 0, 0, 0, 0, 0, 0, 0, 0, 0, 0, 0, 0, 0, 1, 2, 0, 0, 0, 3, 0, 0, 0, 4, 0, 60, 49}, 50, 30, 62, 103),
			room.Filled(append([]byte{66, 0, 2, 0, 0, 1, 2, 0, 0, 0, 3, 48}, rising[:48]...), 42, 221, 87, 54),
			room.Filled([]byte{66, 1, 2, 0, 0, 1, 2, 0, 0, 0, 3, 1, 49}, 75, 132, 15, 168),
		}},
		{api.Record{Kind: api.Hollow, Name: "abcdefghijklmnop", Attempt: most, Epoch: most - 1, Mark: 1, Size: 240}, [][]byte{
			room.Filled([]byte{72, 3, 16, 97, 98, 99, 100, 101, 102, 103, 104, 105, 106, 107, 108, 109, 110, 111, 112, 255, 255, 255, 255, 255, 255, 255, 254, 0, 0, 0, 1, 0, 240}, 215, 159, 69, 0),
		}},
		{api.Record{Kind: api.Gone, Name: "0-", Mark: 0x01020304}, [][]byte{
			room.Filled([]byte{72, 4, 2, 48, 45, 0, 0, 0, 0, 0, 0, 0, 0, 0, 0, 0, 0, 0, 0, 0, 0, 0, 0, 0, 0, 0, 0, 1, 2, 3, 4}, 157, 80, 170, 254),
		}},
		{api.Record{Kind: api.Delta, Name: "z9-", Attempt: 0x01020304, Epoch: 0xfffefdfc, Mark: most, Share: []byte{0}}, [][]byte{
			room.Filled([]byte{72, 5, 3, 122, 57, 45, 0, 0, 0, 0, 0, 0, 0, 0, 0, 0, 0, 0, 0, 1, 2, 3, 4, 255, 254, 253, 252, 255, 255, 255, 255, 0, 0, 1}, 245, 34, 164, 190),
			room.Filled([]byte{66, 0, 5, 1, 2, 3, 4, 255, 254, 253, 252, 1}, 221, 245, 25, 199),
		}},
	} {
		if got, e := Put(table, test.r); e != api.OK || !room.Same(got, test.want) {
			t.Errorf("Put of %v: %v, %d, want %v", test.r, got, e, test.want)
		}
	}
}

func TestPutOfWhatMayBe(t *testing.T) {
	for _, r := range room.RightRecords() {
		if got, e := Put(table, r); e != api.OK || !room.Same(got, room.RecordSectors(r)) {
			t.Errorf("Put of %v: %v, %d", r, got, e)
		}
	}
}

func TestPutOfWhatMayNotBe(t *testing.T) {
	for _, r := range room.WrongRecords() {
		if got, e := Put(table, r); e != api.ErrForm || len(got) != 0 {
			t.Errorf("Put of %v: %v, %d", r, got, e)
		}
	}
}

// unlike tells records no two of which are the same: some that may be, and all that differ from one of these in one thing.
func unlike() []api.Record {
	all := []api.Record{{}, {Kind: math.MinInt, Name: "\xff", Attempt: -1, Epoch: math.MaxInt, Mark: most + 1, Size: 241, Share: make([]byte, 300)}}
	for _, r := range room.FewRecords()[1:8] {
		all = append(all, r)
		for _, change := range []func(r *api.Record){
			func(r *api.Record) { r.Kind += 5 }, func(r *api.Record) { r.Name += "x" }, func(r *api.Record) { r.Name = "" }, func(r *api.Record) { r.Name = "X" + r.Name[1:] },
			func(r *api.Record) { r.Attempt++ }, func(r *api.Record) { r.Epoch-- }, func(r *api.Record) { r.Mark++ }, func(r *api.Record) { r.Size-- },
			func(r *api.Record) { r.Attempt += 1 << 32 }, func(r *api.Record) { r.Epoch += 1 << 32 }, func(r *api.Record) { r.Mark += 1 << 32 }, func(r *api.Record) { r.Size += 1 << 16 }, func(r *api.Record) { r.Kind += 256 },
			func(r *api.Record) { r.Share = append(bytes.Clone(r.Share), 0) }, func(r *api.Record) { r.Share = room.Some(len(r.Share)+1, 77) }, func(r *api.Record) { r.Share = make([]byte, 256) },
		} {
			other := r
			change(&other)
			all = append(all, other)
		}
		for place := range r.Share {
			other := r
			other.Share = room.Turned(r.Share, 8*place+place%8, 1)
			all = append(all, other)
		}
		if n := len(r.Share); n > 1 {
			other := r
			other.Share = r.Share[:n-1]
			all = append(all, other)
		}
	}
	return all
}

func TestSame(t *testing.T) {
	all := unlike()
	for a := range all {
		for b := range all {
			if got := Same(all[a], all[b]); got != (a == b) {
				t.Errorf("Same of %v and %v: %t", all[a], all[b], got)
			}
		}
	}
}

func TestSameLooksAtNoMemory(t *testing.T) {
	for _, r := range append(unlike(), room.RightRecords()...) {
		other := r
		other.Share, _ = room.Of(r.Share...)
		other.Name = string(bytes.Clone([]byte(r.Name)))
		if !Same(r, other) || !Same(other, r) {
			t.Errorf("Same of %v and one of its own memory: false", r)
		}
	}
	none, empty := api.Record{Kind: api.Gone, Name: "a", Mark: 1}, api.Record{Kind: api.Gone, Name: "a", Mark: 1, Share: []byte{}}
	if !Same(none, empty) || !Same(empty, none) || !Same(api.Record{}, api.Record{Share: []byte{}}) {
		t.Error("Same of a share that is nil, and an empty one: false")
	}
}

// P20.2

func TestGetOfSectorsByTheirWords(t *testing.T) {
	for _, r := range room.RightRecords() {
		if all := room.RecordSectors(r); !gets(all, r, len(all)) {
			t.Errorf("Get of the sectors of %v tells another", r)
		}
	}
}

func TestGetOfFewerSectors(t *testing.T) {
	if !getsNot(nil) || !getsNot([][]byte{}) {
		t.Error("Get of no sectors tells something")
	}
	for _, r := range room.RightRecords() {
		room.EachShort(room.RecordSectors(r), func(short [][]byte) {
			if !getsNot(short) {
				t.Fatalf("Get of %d sectors of %v tells something", len(short), r)
			}
		})
	}
}

func TestGetOfSpoiltSectors(t *testing.T) {
	for _, r := range room.FewRecords() {
		room.EachSpoilt(room.RecordSectors(r), func(spoilt [][]byte, how string) {
			if !getsNot(spoilt) {
				t.Errorf("Get of the sectors of %v, of which %s, tells something: %v", r, how, spoilt)
			}
		})
	}
}

func TestGetOfBodiesOfAnotherRecord(t *testing.T) {
	r := api.Record{Kind: api.Live, Name: "pot", Attempt: 5, Epoch: 6, Mark: 7, Size: 200, Share: room.Some(100, 1)}
	all := room.RecordSectors(r)
	for _, test := range []struct {
		name   string
		change func(r *api.Record)
		want   bool
	}{
		{"attempt", func(r *api.Record) { r.Attempt++ }, false}, {"epoch", func(r *api.Record) { r.Epoch++ }, false}, {"attempt and epoch", func(r *api.Record) { r.Attempt, r.Epoch = 6, 5 }, false}, {"kind", func(r *api.Record) { r.Kind = api.Delta }, false},
		{"name", func(r *api.Record) { r.Name = "pan" }, true}, {"mark", func(r *api.Record) { r.Mark++ }, true}, {"size", func(r *api.Record) { r.Size++ }, true}, // bodies have nothing of these
	} {
		other := r
		test.change(&other)
		for k := 1; k < len(all); k++ {
			mixed := slices.Clone(all)
			mixed[k] = room.RecordSectors(other)[k]
			if test.want && !gets(mixed, r, len(all)) || !test.want && !getsNot(mixed) {
				t.Errorf("Get with body %d of one with another %s", k-1, test.name)
			}
		}
	}
	share := bytes.Clone(r.Share)
	for place := range share {
		share[place] ^= 1
		other := r
		other.Share = share
		mixed := slices.Clone(all)
		mixed[1+place/48] = room.RecordSectors(other)[1+place/48]
		if !gets(mixed, other, len(all)) {
			t.Errorf("Get with another byte at place %d of the share tells another", place)
		}
		share[place] ^= 1
	}
}

// numberIn tells a number of bytes, the highest first.
func numberIn(b []byte) int {
	n := 0
	for _, one := range b {
		n = 256*n + int(one)
	}
	return n
}

// byWords tells the record of sectors, how many these are, and whether there is one, by the document's words.
func byWords(sectors [][]byte) (api.Record, int, bool) {
	isSealed := func(b []byte) bool { return len(b) == 64 && bytes.Equal(b, room.Sealed(b[:60])) }
	if len(sectors) == 0 || !isSealed(sectors[0]) || sectors[0][2] > 16 {
		return api.Record{}, 0, false
	}
	h := sectors[0]
	r := api.Record{Kind: int(h[1]), Name: string(h[3 : 3+h[2]]), Attempt: numberIn(h[19:23]), Epoch: numberIn(h[23:27]), Mark: numberIn(h[27:31]), Size: numberIn(h[31:33])}
	count := 1
	for left := int(h[33]); left > 0; left -= 48 {
		if count >= len(sectors) || !isSealed(sectors[count]) {
			return api.Record{}, 0, false
		}
		r.Share = append(r.Share, sectors[count][12:12+min(left, 48)]...)
		count++
	}
	if !mayBe(r) || !room.Same(room.RecordSectors(r), sectors[:count]) {
		return api.Record{}, 0, false
	}
	return r, count, true
}

// checkGet tells when Get is not what the document's words say, and whether there was a record.
func checkGet(t *testing.T, sectors [][]byte) bool {
	t.Helper()
	want, count, is := byWords(sectors)
	if is && !gets(sectors, want, count) || !is && !getsNot(sectors) {
		got, n, ok := Get(table, sectors)
		t.Fatalf("Get of %v: %v, %d, %t, want %v, %d, %t", sectors, got, n, ok, want, count, is)
	}
	return is
}

func TestGetOfAnotherByteOfAPayload(t *testing.T) {
	met := map[bool]int{}
	for _, r := range room.FewRecords() {
		payloads := room.RecordPayloads(r)
		all := room.AllSealed(payloads)
		for k, payload := range payloads {
			for place := range 60 {
				turns := []byte{1, 2, 3, 4, 8, 16, 32, 64, 128, 255}
				if k == 0 && (place < 4 || place > 30 && place < 35) || k > 0 && (place < 3 || place == 11) { // what hangs together with others: each other byte
					turns = slices.Concat(turns, room.Some(60, place), []byte{72, 66, 72 ^ 66})
				}
				for _, turned := range turns {
					b := room.Filled(payload)
					b[place] ^= turned
					all[k] = room.Sealed(b)
					met[checkGet(t, all)]++
				}
			}
			all[k] = room.Sealed(payload)
		}
	}
	if met[true] < 1000 || met[false] < 1000 {
		t.Errorf("of the sectors are some a record's, by whether they are: %v", met)
	}
}

func TestGetOfEachHead(t *testing.T) {
	for _, r := range room.FewRecords() {
		payloads := room.RecordPayloads(r)
		behind := room.AllSealed(append(payloads[1:], room.RecordPayloads(room.Record(r.Kind, 240, 1))[1:]...))
		for place := range 60 {
			for b := range 256 {
				head := room.Filled(payloads[0])
				own := head[place] == byte(b)
				head[place] = byte(b)
				if is := checkGet(t, append([][]byte{room.Sealed(head)}, behind...)); own && !is || !own && is && (place == 0 || place > 33) {
					t.Errorf("Get of the sectors of %v with %d at place %d of the head: %t", r, b, place, is)
				}
			}
		}
	}
}

func TestGetOfAHeadAlone(t *testing.T) {
	for _, r := range room.FewRecords() {
		head := room.RecordPayloads(r)[0]
		for length := range 256 {
			head[33] = byte(length)
			if got := checkGet(t, [][]byte{room.Sealed(head)}); got != (length == 0) {
				t.Errorf("Get of the head %v alone: %t", head, got)
			}
		}
	}
}

func TestGetOfASizeTooGreat(t *testing.T) {
	for _, r := range room.FewRecords() {
		payloads := room.RecordPayloads(r)
		for size := range 1 << 16 {
			if size > 300 && size%256 > 2 && size%97 > 0 { // the others are as these
				continue
			}
			binary.BigEndian.PutUint16(payloads[0][31:], uint16(size))
			want := r
			want.Size = size
			is := size == 0 || size <= 240 && r.Kind != api.Gone
			if all := room.AllSealed(payloads); is && !gets(all, want, len(all)) || !is && !getsNot(all) {
				t.Errorf("Get of the sectors of %v with the size %d", r, size)
			}
		}
	}
}

// manyBytes tells the payloads of a Live record, which may not be, with so many bytes, as if it might.
func manyBytes(n int) [][]byte {
	return room.RecordPayloads(api.Record{Kind: api.Live, Name: "pot", Attempt: 1, Epoch: 2, Mark: 3, Size: 240, Share: room.Some(n, n)})
}

func TestGetOfAShareTooLong(t *testing.T) {
	for n := 241; n < 600; n++ {
		payloads := manyBytes(n)
		for length := range 256 { // what the head tells of it
			payloads[0][33] = byte(length)
			if got := checkGet(t, room.AllSealed(payloads)); got != (length%48 == 0 && length <= 240) { // the whole bodies ahead are a shorter one's
				t.Errorf("Get of the sectors of one with %d bytes, and a head of %d: %t", n, length, got)
			}
		}
	}
	for length := 241; length < 256; length++ {
		if payloads := manyBytes(length); int(payloads[0][33]) != length || !getsNot(room.AllSealed(payloads)) {
			t.Errorf("Get of the sectors of one with %d bytes tells something", length)
		}
	}
}

func TestGetOfAShareInOtherPieces(t *testing.T) {
	r := api.Record{Kind: api.Delta, Name: "pot", Attempt: 1, Epoch: 2, Mark: 3, Size: 100, Share: room.Some(100, 1)}
	head, begin := room.RecordPayloads(r)[0], []byte{1, 2}
	for _, sizes := range [][]int{{48, 48, 4}, {48, 48, 3}, {47, 48, 5}, {48, 47, 5}, {4, 48, 48}, {48, 4, 48}, {48, 48, 0, 4}, {0, 48, 48, 4}, {33, 33, 34}, {47, 47, 6}, {48, 48, 48}, {48, 48}, {48, 48, 5}, {1, 1, 1}, {48, 48, 2, 2}, {0, 0, 0}} {
		all, from := [][]byte{room.Sealed(head)}, 0
		for number, n := range sizes {
			body := slices.Concat([]byte{66, byte(number), 5, 0, 0, 0}, begin[:1], []byte{0, 0, 0}, begin[1:], []byte{byte(n)}, room.Some(200, 1)[from:from+n])
			all, from = append(all, room.Sealed(body)), from+n
		}
		if right := slices.Equal(sizes, []int{48, 48, 4}); right && !gets(all, r, 4) || !right && !getsNot(all) {
			t.Errorf("Get of a share in pieces of %v", sizes)
		}
	}
}

func TestGetOfBytesBehind(t *testing.T) {
	for _, r := range room.FewRecords() {
		payloads := room.RecordPayloads(r)
		all := room.AllSealed(payloads)
		for k, payload := range payloads {
			for place := len(payload); place < 60; place++ {
				for _, more := range []byte{1, 66, 72, 128, 255} {
					b := room.Filled(payload)
					b[place] = more
					all[k] = room.Sealed(b)
					if !getsNot(all) {
						t.Errorf("Get of the sectors of %v with %d at place %d of number %d", r, more, place, k)
					}
				}
			}
			all[k] = room.Sealed(payload)
		}
	}
}

func TestGetOfARecordThatMayNotBe(t *testing.T) {
	sectors := 0
	for _, r := range room.WrongRecords() {
		if len(r.Name) > 16 || len(r.Share) > 255 || r.Kind < 0 || r.Kind > 255 || r.Size < 0 || r.Size > 65535 || min(r.Attempt, r.Epoch, r.Mark) < 0 || max(r.Attempt, r.Epoch, r.Mark) > most { // it has not room in the sectors
			continue
		}
		sectors++
		if all := room.RecordSectors(r); !getsNot(all) {
			t.Errorf("Get of the sectors of %v tells something", r)
		}
	}
	if sectors < 500 {
		t.Errorf("only %d that may not be have room in sectors", sectors)
	}
}

func TestGetOfANameWrittenOtherwise(t *testing.T) {
	for _, r := range room.FewRecords() {
		payloads := room.RecordPayloads(r)
		for n := range 256 {
			payloads[0][2] = byte(n)
			if got := checkGet(t, room.AllSealed(payloads)); got != (n == len(r.Name)) {
				t.Errorf("Get of the sectors of %v with a name of %d bytes: %t", r, n, got)
			}
		}
	}
}

// mixed tells the sectors of a record some of which are changed, and sealed anew; all of it hangs on seed alone.
func mixed(seed int) [][]byte {
	b := room.Some(24, seed)
	r := room.Record(1+int(b[0]%5), int(b[1])%241, seed)
	payloads := room.RecordPayloads(r)
	for k := range int(b[2] % 3) {
		payload := payloads[int(b[3+k])%len(payloads)]
		payload[int(b[5+k])%len(payload)] ^= b[7+k] >> (b[9+k] % 8)
	}
	if b[11]%4 == 0 {
		payloads[0][1] = b[12] % 8
	}
	if b[13]%8 == 0 {
		payloads[0][33] = b[14]
	}
	if b[15]%16 == 0 { // of another record that is near to it
		r.Attempt ^= int(b[16] % 2)
		copy(payloads[len(payloads)-1], room.RecordPayloads(r)[len(payloads)-1])
	}
	all := room.AllSealed(payloads)
	if b[17]%16 == 0 {
		k := int(b[18]) % len(all)
		all = slices.Delete(all, k, k+1)
	}
	return append(all, room.Lists(int(b[19]%3), 64, seed)...)
}

func TestGetOfMixedSectors(t *testing.T) {
	met := map[bool]int{}
	for seed := range 20000 {
		met[checkGet(t, mixed(seed))]++
	}
	if met[true] < 4000 || met[false] < 4000 {
		t.Errorf("of the sectors are some a record's, by whether they are: %v", met)
	}
}

// P20.3

// behind tells what may stand behind sectors, lists of lists.
func behind() [][][]byte {
	live := room.RecordSectors(room.Record(api.Live, 240, 1))
	return [][][]byte{nil, {nil}, {{}}, room.NoSectors(), live, live[1:], live[2:], {make([]byte, 1<<16)}, make([][]byte, 1000), room.Lists(60, 64, 1), room.RecordSectors(room.Record(api.Gone, 0, 1))}
}

func TestGetOfPut(t *testing.T) {
	for _, r := range room.RightRecords() {
		sectors, _ := Put(table, r)
		n := len(sectors)
		if !gets(sectors, r, n) || n != Count(r) {
			t.Errorf("Get of Put of %v tells another", r)
		}
		for _, more := range append(behind(), sectors, sectors[1:], sectors[n-1:]) {
			got, count, ok := Get(table, slices.Concat(sectors, more))
			if !ok || count != n || !Same(got, r) || !room.SameRecord(got, r) {
				t.Errorf("Get of Put of %v, and %d lists behind: %v, %d, %t", r, len(more), got, count, ok)
			}
		}
	}
	for seed := range 5000 {
		b := room.Some(2, seed)
		r := room.Record(1+int(b[0]%5), seed%241, seed)
		sectors, e := Put(table, r)
		if e != api.OK || !gets(append(sectors, room.Some(int(b[1]%66), seed)), r, len(sectors)) {
			t.Errorf("Get of Put of %v, and a list behind, tells another", r)
		}
	}
}

func TestGetOfPutOfEachLengthAndEachByte(t *testing.T) {
	for n := range 241 {
		for _, share := range room.Tapes(n) {
			r := api.Record{Kind: api.Live, Name: "pot", Attempt: 1, Epoch: 2, Mark: 3, Size: 240 - n, Share: share}
			sectors, _ := Put(table, r)
			if !gets(sectors, r, len(sectors)) {
				t.Errorf("Get of Put of %v tells another", r)
			}
		}
	}
	for b := range 256 {
		r := room.Record(api.Staged, 0, b)
		r.Share = bytes.Repeat([]byte{byte(b)}, 49)
		sectors, _ := Put(table, r)
		if !gets(sectors, r, 3) {
			t.Errorf("Get of Put of %v tells another", r)
		}
	}
}

func TestOtherRecordsHaveOtherSectors(t *testing.T) {
	met := map[string]api.Record{}
	for _, r := range append(room.RightRecords(), unlike()...) {
		sectors, e := Put(table, r)
		key := string(bytes.Join(sectors, nil))
		if other, is := met[key]; is && e == api.OK && !room.SameRecord(r, other) {
			t.Errorf("Put of %v and of %v: the same sectors", r, other)
		}
		met[key] = r
	}
}

func TestGetWhenBitsTurn(t *testing.T) {
	for _, r := range []api.Record{{Kind: api.Gone, Name: "a", Mark: 1}, {Kind: api.Live, Name: "pot", Attempt: 5, Epoch: 6, Mark: 7, Size: 60, Share: room.Some(49, 1)}} {
		all := room.RecordSectors(r)
		for k, own := range all {
			room.EachTurn(own, func(turned []byte, bit int, mask uint64) {
				all[k] = turned
				if !getsNot(all) {
					t.Fatalf("Get of the sectors of %v with the bits %b of %d from %d on turned", r, mask, k, bit)
				}
			})
			all[k] = own
		}
	}
}

func TestGetWhenFewBitsTurn(t *testing.T) {
	for _, r := range append(room.FewRecords(), room.Record(api.Delta, 240, 3)) {
		all := append(room.RecordSectors(r), behind()[4]...)
		for k := range Count(r) {
			own := all[k]
			for bit := range 512 {
				for _, mask := range []uint64{1, 3, 1<<32 - 1, 1<<31 | 1} {
					if all[k] = room.Turned(own, bit, mask); !getsNot(all) {
						t.Fatalf("Get of the sectors of %v with the bits %b of %d from %d on turned", r, mask, k, bit)
					}
				}
			}
			all[k] = own
		}
		if !gets(all, r, Count(r)) {
			t.Errorf("Get of the sectors of %v, turned back, tells another", r)
		}
	}
}

// The rules that hold everywhere, of each call.

func TestWhatIsHandedInIsNotChanged(t *testing.T) {
	before := *table
	for _, r := range append(room.RightRecords(), room.WrongRecords()...) {
		share, unchanged := room.Of(r.Share...)
		r.Share = share
		Right(r)
		Count(r)
		Put(table, r)
		Same(r, r)
		if !unchanged() {
			t.Errorf("the share of %v, or its spare room, was changed", r)
		}
	}
	for _, r := range room.FewRecords() {
		for _, more := range behind() {
			sectors, unchanged := room.Rows(append(room.RecordSectors(r), more...)...)
			Get(table, sectors)
			Get(table, sectors[:len(sectors)/2])
			if !unchanged() {
				t.Errorf("the sectors of %v, or their spare room, were changed", r)
			}
		}
	}
	if *table != before {
		t.Error("the table was changed")
	}
}

func TestAnswersShareNoMemory(t *testing.T) {
	for _, r := range append(room.FewRecords(), room.Record(api.Live, 1, 1)) {
		share, _ := room.Of(r.Share...)
		kept := r
		kept.Share = bytes.Clone(r.Share)
		r.Share = share
		first, _ := Put(table, r)
		second, _ := Put(table, r)
		one, _, _ := Get(table, first)
		two, _, _ := Get(table, first)
		all := append(slices.Concat(first, second), share, one.Share, two.Share)
		if k := room.Shared(all...); k >= 0 {
			t.Errorf("of %v: list %d shares memory with one ahead of it", kept, k)
		}
		if got, e := Put(table, kept); e != api.OK || !room.Same(got, room.RecordSectors(kept)) {
			t.Errorf("Put of %v, when those of before were written over: %v, %d", kept, got, e)
		}
	}
}

func TestWhatIsHandedOutDoesNotChange(t *testing.T) {
	for _, r := range room.FewRecords() {
		sectors := room.RecordSectors(r)
		got, n, _ := Get(table, sectors)
		for _, b := range sectors {
			clear(b)
		}
		if n != Count(r) || !room.SameRecord(got, r) {
			t.Errorf("Get's answer has changed with the sectors of %v: %v", r, got)
		}
		told, _ := Put(table, r)
		want := room.RecordSectors(r)
		clear(r.Share)
		Put(table, r)
		if !room.Same(told, want) {
			t.Errorf("Put's answer has changed with the share of %v", r)
		}
	}
}

func TestAnswersHangOnArgumentsAlone(t *testing.T) {
	other := crc.New()
	for _, r := range append(room.RightRecords(), room.WrongRecords()...) {
		sectors, e := Put(table, r)
		again, same := Put(other, r)
		if e != same || !room.Same(sectors, again) {
			t.Errorf("Put of %v is another with another table", r)
		}
		one, n, is := Get(table, sectors)
		two, m, was := Get(other, sectors)
		if n != m || is != was || !room.SameRecord(one, two) {
			t.Errorf("Get of Put of %v is another with another table", r)
		}
	}
}

func TestNothingIsSealedWithoutATable(t *testing.T) {
	for _, r := range room.RightRecords() {
		if got, e := Put(nil, r); len(got) != 0 || e != api.ErrArg {
			t.Errorf("Put of %v without a table: %v, %d", r, got, e)
		}
		if got, n, ok := Get(nil, room.RecordSectors(r)); ok || n != 0 || !room.SameRecord(got, api.Record{}) {
			t.Errorf("Get of the sectors of %v without a table: %v, %d", r, got, n)
		}
	}
	for _, r := range room.WrongRecords() {
		if got, e := Put(nil, r); len(got) != 0 || e != api.ErrForm {
			t.Errorf("Put of %v without a table: %v, %d", r, got, e)
		}
	}
	for _, sectors := range behind() {
		if got, n, ok := Get(nil, sectors); ok || n != 0 || !room.SameRecord(got, api.Record{}) {
			t.Errorf("Get of %v without a table: %v, %d", sectors, got, n)
		}
	}
}

func TestNoCallPanicsWithATableThatNewDidNotMake(t *testing.T) {
	for _, r := range room.RightRecords() {
		sectors, _ := Put(&crc.Table{}, r)
		Get(&crc.Table{}, sectors)
		Get(&crc.Table{}, room.RecordSectors(r))
	}
	for _, sectors := range behind() {
		Get(&crc.Table{}, sectors)
	}
}
