package msg

import (
	"bytes"
	"math"
	"regexp"
	"slices"
	"strings"
	"testing"

	"sherd/api"
	"sherd/crc"
	"sherd/room"
)

var table = crc.New()

// most is the greatest Ballot, Attempt, Epoch and Mark, and the greatest of Who.
const most = 1<<32 - 1

// isName tells whether a text is a name, by the document's words.
var isName = regexp.MustCompile(`\A[a-z0-9][a-z0-9-]{0,15}\z`).MatchString

// mayBe tells whether a message may be, by the document's words.
func mayBe(m api.Message) bool {
	for _, n := range append([]int{m.Ballot, m.Attempt, m.Epoch, m.Mark}, m.Who...) {
		if n < 0 || n > most {
			return false
		}
	}
	for _, s := range m.Names {
		if !isName(s) {
			return false
		}
	}
	return m.Kind >= 1 && m.Kind <= 25 && m.From >= 0 && m.From <= 256 && m.To >= 0 && m.To <= 256 && m.From != m.To &&
		m.Size >= 0 && m.Size <= 240 && m.What >= 0 && m.What <= 255 && (len(m.Name) == 0 || isName(m.Name)) &&
		len(m.Who) <= 255 && len(m.Names) <= 8 && len(m.Data) <= 240
}

// sizeOf tells how many bytes a message has that may be, by the document's words.
func sizeOf(m api.Message) int {
	size := 1 + 1 + 2 + 2 + 4 + 1 + len(m.Name) + 4 + 4 + 4 + 2 + 1 + 1 + 4*len(m.Who) + 1 + 1 + len(m.Data) + 4
	for _, s := range m.Names {
		size += 1 + len(s)
	}
	return size
}

// changed tells a message with some change.
func changed(m api.Message, change func(m *api.Message)) api.Message {
	change(&m)
	return m
}

// gets tells whether Get tells a message, and OK.
func gets(b []byte, want api.Message) bool {
	got, e := Get(table, b)
	return e == api.OK && room.SameMessage(got, want)
}

// getsNot tells whether Get tells an error, and nothing else.
func getsNot(b []byte, want api.Errno) bool {
	got, e := Get(table, b)
	return e == want && room.SameMessage(got, api.Message{})
}

// P25.1

// checkRight tells when Right is not what the document's words say, or Put and Size don't go with it.
func checkRight(t *testing.T, m api.Message) {
	t.Helper()
	want := mayBe(m)
	if got := Right(m); got != want {
		t.Errorf("Right of %v: %t", m, got)
	}
	b, e := Put(table, m)
	if want && (e != api.OK || len(b) != sizeOf(m) || Size(m) != len(b)) || !want && (e != api.ErrForm || len(b) != 0 || Size(m) != 0) {
		t.Errorf("Put of %v: %d bytes, %d, and Size %d", m, len(b), e, Size(m))
	}
}

func TestRightOfKnownOnes(t *testing.T) {
	one := room.BareMessage()
	for k, test := range []struct {
		m    api.Message
		want bool
	}{
		{api.Message{}, false}, {api.Message{Kind: api.Ask}, false}, {api.Message{To: 1}, false}, {one, true}, {api.Message{Kind: api.Ask, From: 1}, true},
		{changed(one, func(m *api.Message) { m.Kind = -1 }), false}, {changed(one, func(m *api.Message) { m.Kind = 25 }), true}, {changed(one, func(m *api.Message) { m.Kind = 26 }), false}, {changed(one, func(m *api.Message) { m.Kind = 257 }), false},
		{changed(one, func(m *api.Message) { m.To = 0 }), false}, {changed(one, func(m *api.Message) { m.To = 256 }), true}, {changed(one, func(m *api.Message) { m.To = 257 }), false}, {changed(one, func(m *api.Message) { m.To = -1 }), false},
		{changed(one, func(m *api.Message) { m.From = 1 }), false}, {changed(one, func(m *api.Message) { m.From = 256 }), true}, {changed(one, func(m *api.Message) { m.From = 257 }), false}, {changed(one, func(m *api.Message) { m.From = -1 }), false}, {changed(one, func(m *api.Message) { m.From, m.To = 256, 256 }), false}, {changed(one, func(m *api.Message) { m.From, m.To = 257, 256 }), false},
		{changed(one, func(m *api.Message) { m.Ballot = most }), true}, {changed(one, func(m *api.Message) { m.Ballot = most + 1 }), false}, {changed(one, func(m *api.Message) { m.Ballot = -1 }), false},
		{changed(one, func(m *api.Message) { m.Attempt = most }), true}, {changed(one, func(m *api.Message) { m.Attempt = most + 1 }), false}, {changed(one, func(m *api.Message) { m.Attempt = -1 }), false},
		{changed(one, func(m *api.Message) { m.Epoch = most }), true}, {changed(one, func(m *api.Message) { m.Epoch = most + 1 }), false}, {changed(one, func(m *api.Message) { m.Epoch = -1 }), false},
		{changed(one, func(m *api.Message) { m.Mark = most }), true}, {changed(one, func(m *api.Message) { m.Mark = most + 1 }), false}, {changed(one, func(m *api.Message) { m.Mark = -1 }), false},
		{changed(one, func(m *api.Message) { m.Size = 240 }), true}, {changed(one, func(m *api.Message) { m.Size = 241 }), false}, {changed(one, func(m *api.Message) { m.Size = -1 }), false},
		{changed(one, func(m *api.Message) { m.What = 255 }), true}, {changed(one, func(m *api.Message) { m.What = 256 }), false}, {changed(one, func(m *api.Message) { m.What = -1 }), false},
		{changed(one, func(m *api.Message) { m.Name = "a" }), true}, {changed(one, func(m *api.Message) { m.Name = "-a" }), false}, {changed(one, func(m *api.Message) { m.Name = "abcdefghijklmnop" }), true}, {changed(one, func(m *api.Message) { m.Name = "abcdefghijklmnopq" }), false},
		{changed(one, func(m *api.Message) { m.Who = []int{0, most, 0} }), true}, {changed(one, func(m *api.Message) { m.Who = []int{0, most + 1, 0} }), false}, {changed(one, func(m *api.Message) { m.Who = []int{-1} }), false}, {changed(one, func(m *api.Message) { m.Who = make([]int, 255) }), true}, {changed(one, func(m *api.Message) { m.Who = make([]int, 256) }), false},
		{changed(one, func(m *api.Message) { m.Names = []string{"b", "a", "a"} }), true}, {changed(one, func(m *api.Message) { m.Names = []string{"b", "", "a"} }), false}, {changed(one, func(m *api.Message) { m.Names = slices.Repeat([]string{"a"}, 8) }), true}, {changed(one, func(m *api.Message) { m.Names = slices.Repeat([]string{"a"}, 9) }), false},
		{changed(one, func(m *api.Message) { m.Data = make([]byte, 240) }), true}, {changed(one, func(m *api.Message) { m.Data = make([]byte, 241) }), false},
		{changed(one, func(m *api.Message) { m.Who, m.Names, m.Data = []int{}, []string{}, []byte{} }), true}, {room.FullMessage(), true},
	} {
		if got := Right(test.m); got != test.want {
			t.Errorf("Right of number %d, %v: %t", k, test.m, got)
		}
		checkRight(t, test.m)
	}
}

func TestRightOfManyOnes(t *testing.T) {
	for _, m := range room.RightMessages() {
		if !Right(m) {
			t.Errorf("Right of %v: false", m)
		}
		checkRight(t, m)
	}
	for _, m := range room.WrongMessages() {
		if Right(m) {
			t.Errorf("Right of %v: true", m)
		}
		checkRight(t, m)
	}
}

func TestRightOfEachNumber(t *testing.T) {
	numbers := slices.Concat(room.Ends(), room.Ballots(), room.WrongBallots(), room.WrongMessageKinds(), room.WrongNodes())
	for n := -1000; n < 2000; n++ {
		numbers = append(numbers, n)
	}
	for name, change := range map[string]func(m *api.Message, n int){
		"Kind": func(m *api.Message, n int) { m.Kind = n }, "From": func(m *api.Message, n int) { m.From = n }, "To": func(m *api.Message, n int) { m.To = n }, "Ballot": func(m *api.Message, n int) { m.Ballot = n },
		"Attempt": func(m *api.Message, n int) { m.Attempt = n }, "Epoch": func(m *api.Message, n int) { m.Epoch = n }, "Mark": func(m *api.Message, n int) { m.Mark = n }, "Size": func(m *api.Message, n int) { m.Size = n }, "What": func(m *api.Message, n int) { m.What = n },
		"one of Who": func(m *api.Message, n int) { m.Who = []int{n} }, "the second of Who": func(m *api.Message, n int) { m.Who = []int{0, n, 1} }, "the last of Who": func(m *api.Message, n int) { m.Who = append(make([]int, 254), n) },
	} {
		for _, own := range []api.Message{room.BareMessage(), room.MixedMessage()} {
			may := 0
			for _, n := range numbers {
				m := changed(own, func(m *api.Message) { change(m, n) })
				if mayBe(m) {
					may++
				}
				checkRight(t, m)
			}
			if may < 20 || may > len(numbers)-1000 {
				t.Errorf("of %d messages that differ in %s, %d may be", len(numbers), name, may)
			}
		}
	}
}

func TestRightOfEachTwoNodes(t *testing.T) {
	for from := -2; from < 260; from++ {
		for to := -2; to < 260; to++ {
			m := api.Message{Kind: api.Share, From: from, To: to}
			if got := Right(m); got != mayBe(m) {
				t.Errorf("Right of one from %d to %d: %t", from, to, got)
			}
		}
	}
}

func TestRightOfEachLength(t *testing.T) {
	lengths := []int{1 << 16, 1<<16 + 1, 1<<16 + 8, 1<<16 + 240, 1<<16 + 255, 1 << 20}
	for n := range 600 {
		lengths = append(lengths, n)
	}
	for _, own := range []api.Message{room.BareMessage(), room.MixedMessage()} {
		for _, n := range lengths {
			checkRight(t, changed(own, func(m *api.Message) { m.Who = slices.Repeat([]int{5}, n) }))
			checkRight(t, changed(own, func(m *api.Message) { m.Names = slices.Repeat([]string{"ab"}, n) }))
			checkRight(t, changed(own, func(m *api.Message) { m.Data = room.Some(n, n) }))
			checkRight(t, changed(own, func(m *api.Message) { m.Name = strings.Repeat("a", n) }))
		}
	}
}

func TestRightOfEachName(t *testing.T) {
	for _, s := range append(room.Names(), room.WrongNames()...) {
		for _, own := range []api.Message{room.BareMessage(), room.MixedMessage()} {
			own.Name = s
			if got := Right(own); got != (s == "" || isName(s)) {
				t.Errorf("Right of one with the name %q: %t", s, got)
			}
			checkRight(t, own)
		}
		for count := 1; count <= 8; count++ {
			for place := range count {
				m := room.BareMessage()
				m.Names = slices.Clone(room.Names()[:count])
				m.Names[place] = s
				if got := Right(m); got != isName(s) {
					t.Errorf("Right of one with the names %q: %t", m.Names, got)
				}
			}
		}
	}
	for b := range 256 {
		for _, s := range []string{string([]byte{byte(b)}), string([]byte{'a', byte(b)}), string([]byte{byte(b), 'a'}), "abcdefghijklmno" + string([]byte{byte(b)})} {
			checkRight(t, changed(room.BareMessage(), func(m *api.Message) { m.Name = s }))
			checkRight(t, changed(room.BareMessage(), func(m *api.Message) { m.Names = []string{"a", s} }))
		}
	}
}

func TestRightOfEachPlaceOfWho(t *testing.T) {
	for place := range 255 {
		for _, n := range []int{-1, most + 1, math.MinInt, math.MaxInt} {
			m := room.FullMessage()
			m.Who[place] = n
			if Right(m) || Size(m) != 0 {
				t.Errorf("Right of one with %d at place %d of Who: true", n, place)
			}
		}
	}
}

func TestPutOfKnownOnes(t *testing.T) {
	for _, test := range []struct {
		m    api.Message
		want []byte
	}{
		{api.Message{Kind: api.Ask, To: 1}, []byte{77, 1, 0, 0, 0, 1, 0, 0, 0, 0, 0, 0, 0, 0, 0, 0, 0, 0, 0, 0, 0, 0, 0, 0, 0, 0, 0, 0, 0, 156, 29, 192, 103}},
		{api.Message{Kind: api.Deal, To: 4, Ballot: 258, Name: "ab", Attempt: 1, Epoch: 2, Mark: 3, Size: 4, What: 5, Who: []int{6, 7}, Names: []string{"x"}, Data: []byte{9, 9}},
			[]byte{77, 9, 0, 0, 0, 4, 0, 0, 1, 2, 2, 97, 98, 0, 0, 0, 1, 0, 0, 0, 2, 0, 0, 0, 3, 0, 4, 5, 2, 0, 0, 0, 6, 0, 0, 0, 7, 1, 1, 120, 2, 9, 9, 139, 196, 193, 4}},
		{api.Message{Kind: api.Mended, From: 256, To: 255, Ballot: most, Name: "abcdefghijklmnop", Attempt: most - 1, Epoch: 0x01020304, Mark: 0xfffefdfc, Size: 240, What: 255, Who: []int{0, most, 256}, Names: []string{"0-", "pot", "a"}, Data: []byte{0}},
			[]byte{77, 25, 1, 0, 0, 255, 255, 255, 255, 255, 16, 97, 98, 99, 100, 101, 102, 103, 104, 105, 106, 107, 108, 109, 110, 111, 112, 255, 255, 255, 254, 1, 2, 3, 4, 255, 254, 253, 252, 0, 240, 255, 3, 0, 0, 0, 0, 255, 255, 255, 255, 0, 0, 1, 0, 3, 2, 48, 45, 3, 112, 111, 116, 1, 97, 1, 0, 74, 238, 5, 61}},
		{api.Message{Kind: api.Listed, From: 3, Names: slices.Repeat([]string{"a"}, 8)}, []byte{77, 20, 0, 3, 0, 0, 0, 0, 0, 0, 0, 0, 0, 0, 0, 0, 0, 0, 0, 0, 0, 0, 0, 0, 0, 0, 0, 8, 1, 97, 1, 97, 1, 97, 1, 97, 1, 97, 1, 97, 1, 97, 1, 97, 0, 52, 65, 132, 177}},
		{api.Message{Kind: api.Said, From: 256, Size: 1}, []byte{77, 14, 1, 0, 0, 0, 0, 0, 0, 0, 0, 0, 0, 0, 0, 0, 0, 0, 0, 0, 0, 0, 0, 0, 1, 0, 0, 0, 0, 241, 81, 175, 188}},
	} {
		if got, e := Put(table, test.m); e != api.OK || !bytes.Equal(got, test.want) {
			t.Errorf("Put of %v: %v, %d, want %v", test.m, got, e, test.want)
		}
		if got := Size(test.m); got != len(test.want) {
			t.Errorf("Size of %v: %d, want %d", test.m, got, len(test.want))
		}
	}
}

func TestPutOfWhatMayBe(t *testing.T) {
	for _, m := range room.RightMessages() {
		if got, e := Put(table, m); e != api.OK || !bytes.Equal(got, room.MessageBytes(m)) || !table.Good(got) {
			t.Errorf("Put of %v: %v, %d", m, got, e)
		}
	}
}

func TestPutOfWhatMayNotBe(t *testing.T) {
	for _, m := range room.WrongMessages() {
		if got, e := Put(table, m); e != api.ErrForm || len(got) != 0 {
			t.Errorf("Put of %v: %v, %d", m, got, e)
		}
	}
}

func TestSize(t *testing.T) {
	for n := range 241 {
		if got := Size(changed(room.BareMessage(), func(m *api.Message) { m.Data = make([]byte, n) })); got != 33+n {
			t.Errorf("Size of one with %d bytes of Data: %d", n, got)
		}
	}
	for n := range 256 {
		if got := Size(changed(room.BareMessage(), func(m *api.Message) { m.Who = make([]int, n) })); got != 33+4*n {
			t.Errorf("Size of one with %d of Who: %d", n, got)
		}
	}
	for n := range 17 {
		if got := Size(changed(room.BareMessage(), func(m *api.Message) { m.Name = strings.Repeat("a", n) })); got != 33+n {
			t.Errorf("Size of one with a name of %d bytes: %d", n, got)
		}
		for count := range 9 {
			if got := Size(changed(room.BareMessage(), func(m *api.Message) { m.Names = slices.Repeat([]string{strings.Repeat("a", n+1)}, count) })); n < 16 && got != 33+count*(n+2) {
				t.Errorf("Size of one with %d names of %d bytes: %d", count, n+1, got)
			}
		}
	}
	if got := Size(room.FullMessage()); got != 33+16+4*255+8*17+240 {
		t.Errorf("Size of the longest one: %d", got)
	}
}

// unlike tells messages no two of which are the same: some that may be, and many that differ from one of these in one thing.
func unlike() []api.Message {
	all := []api.Message{{}, {Kind: math.MinInt, From: -1, To: math.MaxInt, Ballot: most + 1, Name: "\xff", Attempt: -1, Epoch: math.MaxInt, Mark: most + 1, Size: 241, What: -1, Who: make([]int, 300), Names: make([]string, 20), Data: make([]byte, 300)}}
	for _, own := range append(room.FewMessages()[:3], room.Message(api.Stage, 1)) {
		all = append(all, own)
		for _, number := range []func(m *api.Message) *int{
			func(m *api.Message) *int { return &m.Kind }, func(m *api.Message) *int { return &m.From }, func(m *api.Message) *int { return &m.To }, func(m *api.Message) *int { return &m.Ballot }, func(m *api.Message) *int { return &m.Attempt },
			func(m *api.Message) *int { return &m.Epoch }, func(m *api.Message) *int { return &m.Mark }, func(m *api.Message) *int { return &m.Size }, func(m *api.Message) *int { return &m.What },
		} {
			for _, more := range []int{1, -300, 256, 1 << 16, 1 << 32} {
				all = append(all, changed(own, func(m *api.Message) { *number(m) += more }))
			}
		}
		for _, change := range []func(m *api.Message){
			func(m *api.Message) { m.Name += "x" }, func(m *api.Message) { m.Name = "\x00" + m.Name }, func(m *api.Message) { m.Name = "X" + m.Name },
			func(m *api.Message) { m.Who = append(slices.Clone(m.Who), 0) }, func(m *api.Message) { m.Who = append([]int{77}, m.Who...) }, func(m *api.Message) { m.Who = make([]int, 256) },
			func(m *api.Message) { m.Names = append(slices.Clone(m.Names), "") }, func(m *api.Message) { m.Names = append(slices.Clone(m.Names), "a", "b") }, func(m *api.Message) { m.Names = append(slices.Clone(m.Names), "b", "a") }, func(m *api.Message) { m.Names = append(slices.Clone(m.Names), "ab") },
			func(m *api.Message) { m.Data = append(bytes.Clone(m.Data), 0) }, func(m *api.Message) { m.Data = room.Some(len(m.Data)+1, 77) }, func(m *api.Message) { m.Data = make([]byte, 256) },
		} {
			all = append(all, changed(own, change))
		}
		for place := range own.Who {
			all = append(all, changed(own, func(m *api.Message) { m.Who = slices.Clone(m.Who); m.Who[place] += 1 << (place % 40) }))
		}
		for place := range own.Names {
			all = append(all, changed(own, func(m *api.Message) { m.Names = slices.Clone(m.Names); m.Names[place] += "-x" }))
		}
		for place := range own.Data {
			all = append(all, changed(own, func(m *api.Message) { m.Data = room.Turned(m.Data, 8*place+place%8, 1) }))
		}
		if len(own.Who) > 1 && len(own.Names) > 1 && len(own.Data) > 1 {
			all = append(all, changed(own, func(m *api.Message) { m.Who = m.Who[1:] }), changed(own, func(m *api.Message) { m.Names = m.Names[1:] }), changed(own, func(m *api.Message) { m.Data = m.Data[1:] }))
			all = append(all, changed(own, func(m *api.Message) { m.Who = m.Who[:1] }), changed(own, func(m *api.Message) { m.Names = m.Names[:1] }), changed(own, func(m *api.Message) { m.Data = m.Data[:1] }))
		}
	}
	return all
}

func TestSame(t *testing.T) {
	all := unlike()
	for a := range all {
		for b := range all {
			if got := Same(all[a], all[b]); got != (a == b) {
				t.Errorf("Same of %v and %v: %t", all[a], all[b], got)
			}
		}
	}
}

func TestSameLooksAtNoMemory(t *testing.T) {
	for _, m := range slices.Concat(unlike(), room.RightMessages(), room.WrongMessages()) {
		other, _ := room.MarkedMessage(m)
		other.Name = strings.Clone(m.Name)
		if !Same(m, other) || !Same(other, m) || !Same(m, m) {
			t.Errorf("Same of %v and one of its own memory: false", m)
		}
	}
	for _, none := range []api.Message{{}, room.BareMessage()} {
		for _, empty := range []api.Message{changed(none, func(m *api.Message) { m.Who = []int{} }), changed(none, func(m *api.Message) { m.Names = []string{} }), changed(none, func(m *api.Message) { m.Data = []byte{} })} {
			if !Same(none, empty) || !Same(empty, none) {
				t.Errorf("Same of a list that is nil, and an empty one, %v: false", empty)
			}
		}
	}
}

// P25.2

func TestGetOfBytesByTheirWords(t *testing.T) {
	for _, m := range room.RightMessages() {
		if !gets(room.MessageBytes(m), m) {
			t.Errorf("Get of the bytes of %v tells another", m)
		}
	}
}

// wordReader reads bytes by the document's words.
type wordReader struct {
	left   []byte
	lacked bool
}

func (r *wordReader) raw(n int) []byte {
	if n > len(r.left) {
		r.left, r.lacked = nil, true
		return nil
	}
	next := r.left[:n]
	r.left = r.left[n:]
	return next
}

func (r *wordReader) number(k int) int {
	n := 0
	for _, b := range r.raw(k) {
		n = 256*n + int(b)
	}
	return n
}

func (r *wordReader) text() string {
	return string(r.raw(r.number(1)))
}

// textOf tells the message of bytes that are not sealed, whether it may be or not, and whether there is just that.
func textOf(b []byte) (api.Message, bool) {
	r := &wordReader{left: b}
	if r.number(1) != 77 {
		return api.Message{}, false
	}
	m := api.Message{Kind: r.number(1), From: r.number(2), To: r.number(2), Ballot: r.number(4), Name: r.text(), Attempt: r.number(4), Epoch: r.number(4), Mark: r.number(4), Size: r.number(2), What: r.number(1)}
	for k := r.number(1); k > 0; k-- {
		m.Who = append(m.Who, r.number(4))
	}
	for k := r.number(1); k > 0; k-- {
		m.Names = append(m.Names, r.text())
	}
	m.Data = []byte(r.text())
	return m, !r.lacked && len(r.left) == 0
}

// byWords tells the message of bytes, or an error, by the document's words.
func byWords(b []byte) (api.Message, api.Errno) {
	if len(b) < 4 || !bytes.Equal(b, room.WithSum(b[:len(b)-4])) {
		return api.Message{}, api.ErrSum
	}
	m, is := textOf(b[:len(b)-4])
	if !is || !mayBe(m) || !bytes.Equal(b, room.MessageBytes(m)) {
		return api.Message{}, api.ErrForm
	}
	return m, api.OK
}

// checkGet tells when Get is not what the document's words say, and which error they say.
func checkGet(t *testing.T, b []byte) api.Errno {
	t.Helper()
	want, e := byWords(b)
	if e == api.OK && !gets(b, want) || e != api.OK && !getsNot(b, e) {
		got, was := Get(table, b)
		t.Fatalf("Get of %v: %v, %d, want %v, %d", b, got, was, want, e)
	}
	return e
}

func TestGetOfKnownBytes(t *testing.T) {
	bare := room.MessageText(room.BareMessage())
	for _, test := range []struct {
		b    []byte
		want api.Errno
	}{
		{nil, api.ErrSum}, {[]byte{}, api.ErrSum}, {[]byte{77}, api.ErrSum}, {bare, api.ErrSum}, {make([]byte, 3), api.ErrSum}, {bytes.Repeat([]byte{255}, 33), api.ErrSum}, {append(bytes.Clone(bare), 0, 0, 0, 0), api.ErrSum},
		{make([]byte, 4), api.ErrForm}, {room.WithSum(nil), api.ErrForm}, {room.WithSum([]byte{77}), api.ErrForm}, {room.WithSum(bare[1:]), api.ErrForm}, {room.WithSum(bare[:28]), api.ErrForm}, {room.WithSum(make([]byte, 29)), api.ErrForm}, {room.WithSum(append(bytes.Clone(bare), 0)), api.ErrForm}, {room.WithSum(room.WithSum(bare)), api.ErrForm},
		{room.WithSum(bare), api.OK}, {room.MessageBytes(room.FullMessage()), api.OK}, {room.MessageBytes(api.Message{}), api.ErrForm},
	} {
		if _, e := Get(table, test.b); e != test.want {
			t.Errorf("Get of %v: %d, want %d", test.b, e, test.want)
		}
		checkGet(t, test.b)
	}
}

func TestGetOfBytesThatLack(t *testing.T) {
	for _, m := range room.FewMessages() {
		b, text := room.MessageBytes(m), room.MessageText(m)
		for n := range b {
			if !getsNot(b[:n], api.ErrSum) || !getsNot(b[:n:n], api.ErrSum) || !getsNot(b[n+1:], api.ErrSum) || !getsNot(slices.Delete(bytes.Clone(b), n, n+1), api.ErrSum) {
				t.Errorf("Get of the bytes of %v without some about place %d", m, n)
			}
		}
		for n := range text {
			if !getsNot(table.Seal(text[:n]), api.ErrForm) || !getsNot(table.Seal(text[n+1:]), api.ErrForm) {
				t.Errorf("Get of %d bytes of %v, or of those behind, sealed", n, m)
			}
			checkGet(t, table.Seal(slices.Delete(bytes.Clone(text), n, n+1)))
		}
	}
}

func TestGetOfBytesBehind(t *testing.T) {
	for _, m := range room.FewMessages() {
		b, text := room.MessageBytes(m), room.MessageText(m)
		for _, more := range [][]byte{{0}, {1}, {77}, {255}, make([]byte, 4), b[len(text):], b, make([]byte, 1000), room.Some(70, 1)} {
			if !getsNot(slices.Concat(b, more), api.ErrSum) || !getsNot(slices.Concat(more, b), api.ErrSum) {
				t.Errorf("Get of the bytes of %v, and of %v behind, or ahead", m, more)
			}
			if !getsNot(table.Seal(slices.Concat(text, more)), api.ErrForm) || !getsNot(table.Seal(slices.Concat(more, text)), api.ErrForm) || !getsNot(table.Seal(slices.Concat(b, more)), api.ErrForm) {
				t.Errorf("Get of the bytes of %v, and of %v behind, or ahead, sealed", m, more)
			}
		}
	}
}

func TestGetOfEachByteAtEachPlace(t *testing.T) {
	met := map[api.Errno]int{}
	for _, m := range []api.Message{room.BareMessage(), room.MixedMessage(), {Kind: api.Listed, From: 256, To: 255, Name: "abcdefghijklmnop", Names: []string{"a", "abcdefghijklmnop", "a"}}} {
		text := room.MessageText(m)
		for place := range text {
			for b := range 256 {
				other := bytes.Clone(text)
				other[place] = byte(b)
				if getsNot(append(other, room.MessageBytes(m)[len(text):]...), api.ErrSum) == (text[place] == byte(b)) {
					t.Errorf("Get of the bytes of %v with %d at place %d, and the sum of others", m, b, place)
				}
				e := checkGet(t, room.WithSum(other))
				if met[e]++; e != api.OK && text[place] == byte(b) || e == api.OK && place == 0 && b != 77 || e == api.ErrSum {
					t.Errorf("Get of the bytes of %v with %d at place %d: %d", m, b, place, e)
				}
			}
		}
	}
	if met[api.OK] < 1000 || met[api.ErrForm] < 1000 {
		t.Errorf("of the bytes are some a message's, by the errors: %v", met)
	}
}

func TestGetOfEachPlaceOfTheLongest(t *testing.T) {
	text := room.MessageText(room.FullMessage())
	for place := range text {
		for _, turned := range []byte{1, 2, 16, 32, 128, 255} {
			text[place] ^= turned
			checkGet(t, room.WithSum(text))
			text[place] ^= turned
		}
	}
}

func TestGetOfAnotherSum(t *testing.T) {
	for _, m := range room.FewMessages() {
		b := room.MessageBytes(m)
		for place := len(b) - 4; place < len(b); place++ {
			for turned := 1; turned < 256; turned++ {
				b[place] ^= byte(turned)
				if !getsNot(b, api.ErrSum) {
					t.Errorf("Get of the bytes of %v with another sum", m)
				}
				b[place] ^= byte(turned)
			}
		}
		slices.Reverse(b[len(b)-4:])
		if !getsNot(b, api.ErrSum) {
			t.Errorf("Get of the bytes of %v with the sum's highest byte first", m)
		}
	}
}

func TestGetTellsTheSumFirst(t *testing.T) {
	for _, m := range room.WrongMessages() {
		b := room.MessageBytes(m)
		if !getsNot(b[:len(b)-4], api.ErrSum) || !getsNot(room.Turned(b, 3, 1), api.ErrSum) {
			t.Errorf("Get of the bytes of %v, not sealed", m)
		}
	}
}

func TestGetOfAMessageThatMayNotBe(t *testing.T) {
	written := 0
	for _, m := range room.WrongMessages() {
		b := room.MessageText(m)
		if said, is := textOf(b); !is || !room.SameMessage(said, m) { // it has not room in the bytes
			continue
		}
		written++
		if !getsNot(room.WithSum(b), api.ErrForm) {
			t.Errorf("Get of the bytes of %v", m)
		}
	}
	if written < 300 {
		t.Errorf("only %d that may not be have room in bytes", written)
	}
}

func TestGetOfEachSizeAndEachNode(t *testing.T) {
	for _, own := range []api.Message{room.BareMessage(), room.MixedMessage()} {
		for n := range 1 << 16 {
			if n > 600 && n%256 > 2 && n%97 > 0 { // the others are as these
				continue
			}
			for _, m := range []api.Message{changed(own, func(m *api.Message) { m.Size = n }), changed(own, func(m *api.Message) { m.From = n }), changed(own, func(m *api.Message) { m.To = n })} {
				if b := room.MessageBytes(m); mayBe(m) && !gets(b, m) || !mayBe(m) && !getsNot(b, api.ErrForm) {
					t.Errorf("Get of the bytes of %v", m)
				}
			}
		}
	}
}

// nameAt, whoAt, namesAt and dataAt are where a bare message has how many bytes its Name has, how many there are of Who and of Names, and how many bytes its Data has.
const (
	nameAt  = 10
	whoAt   = 26
	namesAt = 27
	dataAt  = 28
)

func TestGetOfEachCount(t *testing.T) {
	bare := room.MessageText(room.BareMessage())
	for told := range 256 {
		for _, given := range []int{0, 1, 7, 8, 9, 60, 239, 240, 241, 254, 255, told} {
			for name, b := range map[string][]byte{
				"Who":   slices.Concat(bare[:whoAt], []byte{byte(told)}, room.Some(4*given, 1), []byte{0, 0}),
				"Names": slices.Concat(bare[:namesAt], []byte{byte(told)}, bytes.Repeat([]byte{1, 'a'}, given), []byte{0}),
				"Data":  slices.Concat(bare[:dataAt], []byte{byte(told)}, room.Some(given, 1)),
			} {
				most := map[string]int{"Who": 255, "Names": 8, "Data": 240}[name]
				want := api.ErrForm
				if told == given && told <= most {
					want = api.OK
				}
				if e := checkGet(t, room.WithSum(b)); e != want {
					t.Errorf("Get of %d of %s where %d are told: %d", given, name, told, e)
				}
			}
		}
	}
}

func TestGetOfEachLengthOfAName(t *testing.T) {
	for told := range 256 {
		for _, given := range []int{0, 1, 2, 15, 16, 17, 18, 255, told} {
			name := slices.Concat([]byte{byte(told)}, bytes.Repeat([]byte{'a'}, given))
			bare := room.MessageText(room.BareMessage())
			want := api.ErrForm
			if told == given && told <= 16 {
				want = api.OK
			}
			if e := checkGet(t, room.WithSum(slices.Concat(bare[:nameAt], name, bare[nameAt+1:]))); e != want {
				t.Errorf("Get of a name of %d bytes where %d are told: %d", given, told, e)
			}
			if told == 0 { // one of Names may not be empty
				want = api.ErrForm
			}
			if e := checkGet(t, room.WithSum(slices.Concat(bare[:namesAt], []byte{1}, name, bare[namesAt+1:]))); e != want {
				t.Errorf("Get of one of Names of %d bytes where %d are told: %d", given, told, e)
			}
		}
	}
}

func TestGetOfANameWrittenOtherwise(t *testing.T) {
	bare := room.MessageText(room.BareMessage())
	for _, s := range room.Names() {
		padded := slices.Concat([]byte{byte(len(s))}, []byte(s), make([]byte, 16-len(s))) // as records have it
		for _, name := range [][]byte{padded, slices.Concat([]byte{16}, padded[1:]), []byte(s), append([]byte(s), 0), slices.Concat([]byte{0, byte(len(s))}, []byte(s))} {
			want := api.ErrForm
			if len(s) == 16 && name[0] == 16 { // there are no noughts behind it
				want = api.OK
			}
			if e := checkGet(t, room.WithSum(slices.Concat(bare[:nameAt], name, bare[nameAt+1:]))); e != want {
				t.Errorf("Get of a message with the name %v: %d", name, e)
			}
			if e := checkGet(t, room.WithSum(slices.Concat(bare[:namesAt], []byte{1}, name, bare[namesAt+1:]))); e != want {
				t.Errorf("Get of a message with %v of Names: %d", name, e)
			}
		}
	}
}

func TestGetOfOtherOrders(t *testing.T) {
	m := room.MixedMessage()
	for _, change := range []func(m *api.Message){
		func(m *api.Message) { m.From, m.To = m.To, m.From }, func(m *api.Message) { m.Attempt, m.Epoch = m.Epoch, m.Attempt }, func(m *api.Message) { m.Epoch, m.Mark = m.Mark, m.Epoch }, func(m *api.Message) { m.Ballot, m.Mark = m.Mark, m.Ballot },
		func(m *api.Message) { m.Size, m.What = m.What, m.Size }, func(m *api.Message) { m.Who = []int{m.Who[1], m.Who[0]} }, func(m *api.Message) { m.Names = []string{m.Names[2], m.Names[0], m.Names[1]} }, func(m *api.Message) { m.Data = []byte{7, 8, 9} },
	} {
		other := changed(m, change)
		if !gets(room.MessageBytes(other), other) || gets(room.MessageBytes(other), m) {
			t.Errorf("Get of the bytes of %v tells another", other)
		}
	}
}

// mixed tells bytes of a message some of which are changed, and mostly sealed anew; all of it hangs on seed alone.
func mixed(seed int) []byte {
	b := room.Some(24, seed)
	m := room.Message(1+int(b[0])%25, seed)
	m.Data = m.Data[:len(m.Data)/8]
	text := room.MessageText(m)
	for k := range int(b[1] % 3) {
		text[int(b[2+k])%len(text)] ^= b[5+k] >> (b[8+k] % 8)
	}
	if b[11]%8 == 0 { // what tells how many of a list there are, and a kind, are changed more often
		text[len(text)-1-len(m.Data)] = b[12]
	}
	if b[13]%8 == 0 {
		text[1] = b[14] % 32
	}
	if b[15]%16 == 0 {
		k := int(b[16]) % len(text)
		text = slices.Delete(text, k, k+1)
	}
	if b[17]%16 == 0 {
		k := int(b[18]) % len(text)
		text = slices.Insert(text, k, b[19])
	}
	all := room.WithSum(text)
	if b[20]%8 == 0 {
		all = room.Turned(all, int(b[21]), uint64(b[22]))
	}
	return all
}

func TestGetOfMixedBytes(t *testing.T) {
	met := map[api.Errno]int{}
	for seed := range 30000 {
		met[checkGet(t, mixed(seed))]++
	}
	if met[api.OK] < 5000 || met[api.ErrForm] < 5000 || met[api.ErrSum] < 1000 || len(met) != 3 {
		t.Errorf("of the bytes are some a message's, by the errors: %v", met)
	}
}

func TestGetOfAnyBytes(t *testing.T) {
	met := map[api.Errno]int{}
	for seed := range 3000 {
		b := room.Some(seed%200, seed)
		met[checkGet(t, b)]++
		met[checkGet(t, table.Seal(b))]++
		met[checkGet(t, table.Seal(append([]byte{77, 1, 0, 0, 0, 1, 0, 0, 0, 0, 0}, b...)))]++
	}
	if met[api.ErrForm] < 3000 || met[api.ErrSum] < 2900 {
		t.Errorf("of the bytes are some a message's, by the errors: %v", met)
	}
	for _, n := range []int{1 << 10, 1 << 16, 1 << 22} {
		for _, b := range room.Tapes(n) {
			if got, e := Get(table, table.Seal(b)); e != api.ErrForm || !room.SameMessage(got, api.Message{}) {
				t.Errorf("Get of %d bytes, sealed: %d", n, e)
			}
		}
	}
}

func TestGetWhenBitsTurn(t *testing.T) {
	for _, m := range []api.Message{room.BareMessage(), room.MixedMessage()} {
		b := room.MessageBytes(m)
		room.EachTurn(b, func(turned []byte, bit int, mask uint64) {
			if !getsNot(turned, api.ErrSum) {
				t.Fatalf("Get of the bytes of %v with the bits %b from %d on turned", m, mask, bit)
			}
		})
	}
}

func TestGetOfPut(t *testing.T) {
	for _, m := range room.RightMessages() {
		b, e := Put(table, m)
		got, was := Get(table, b)
		if e != api.OK || was != api.OK || !Same(got, m) || !room.SameMessage(got, m) {
			t.Errorf("Get of Put of %v: %v, %d", m, got, was)
		}
	}
	for seed := range 20000 {
		m := room.Message(1+seed%25, seed)
		b, e := Put(table, m)
		if e != api.OK || !gets(b, m) || Size(m) != len(b) {
			t.Errorf("Get of Put of %v tells another", m)
		}
		if again, e := Put(table, m); e != api.OK || !bytes.Equal(b, again) {
			t.Errorf("Put of %v tells others the second time", m)
		}
	}
}

func TestGetOfPutOfEachByteAndEachLength(t *testing.T) {
	for n := range 241 {
		for _, data := range room.Tapes(n) {
			m := changed(room.BareMessage(), func(m *api.Message) { m.Data = data })
			if b, e := Put(table, m); e != api.OK || !gets(b, m) {
				t.Errorf("Get of Put of one with the Data %v tells another", data)
			}
		}
	}
	for n := range 256 {
		m := changed(room.BareMessage(), func(m *api.Message) {
			m.What, m.Who, m.Data = n, slices.Repeat([]int{most - n, n}, n/2), []byte{byte(n), 0, byte(n)}
		})
		if b, e := Put(table, m); e != api.OK || !gets(b, m) {
			t.Errorf("Get of Put of %v tells another", m)
		}
	}
}

func TestOtherMessagesHaveOtherBytes(t *testing.T) {
	met := map[string]api.Message{}
	for _, m := range append(room.RightMessages(), unlike()...) {
		b, e := Put(table, m)
		if other, is := met[string(b)]; is && e == api.OK && !room.SameMessage(m, other) {
			t.Errorf("Put of %v and of %v: the same bytes", m, other)
		}
		met[string(b)] = m
	}
}

// The rules that hold everywhere, of each call.

func TestWhatIsHandedInIsNotChanged(t *testing.T) {
	before := *table
	for _, own := range append(room.RightMessages(), room.WrongMessages()...) {
		m, unchanged := room.MarkedMessage(own)
		other, same := room.MarkedMessage(own)
		Right(m)
		Put(table, m)
		Size(m)
		Same(m, other)
		if !unchanged() || !same() {
			t.Errorf("a list of %v, or its spare room, was changed", own)
		}
	}
	for seed := range 1000 {
		for _, all := range [][]byte{mixed(seed), room.Some(seed%50, seed)} {
			b, unchanged := room.Of(all...)
			Get(table, b)
			Get(table, b[:len(b)/2])
			if !unchanged() {
				t.Errorf("%v, or its spare room, was changed", all)
			}
		}
	}
	if *table != before {
		t.Error("the table was changed")
	}
}

// overwrite writes over all lists of a message, and their spare room.
func overwrite(m api.Message) {
	who, names, data := m.Who[:cap(m.Who)], m.Names[:cap(m.Names)], m.Data[:cap(m.Data)]
	for k := range who {
		who[k] = -1
	}
	for k := range names {
		names[k] = "written over"
	}
	for k := range data {
		data[k] ^= 255
	}
}

func TestAnswersShareNoMemory(t *testing.T) {
	for _, own := range room.FewMessages() {
		m, _ := room.MarkedMessage(own)
		first, _ := Put(table, m)
		second, _ := Put(table, m)
		one, _ := Get(table, first)
		two, _ := Get(table, first)
		overwrite(one)
		if !room.SameMessage(two, own) || !room.SameMessage(m, own) || !bytes.Equal(first, room.MessageBytes(own)) || !gets(first, own) {
			t.Errorf("of %v: what Get told shares memory with other things", own)
		}
		if k := room.Shared(first, second, m.Data, two.Data); k >= 0 {
			t.Errorf("of %v: list %d shares memory with one ahead of it", own, k)
		}
		if b, e := Put(table, own); e != api.OK || !bytes.Equal(b, room.MessageBytes(own)) {
			t.Errorf("Put of %v, when those of before were written over: %v, %d", own, b, e)
		}
	}
}

func TestWhatIsHandedOutDoesNotChange(t *testing.T) {
	for _, own := range room.FewMessages() {
		b := room.MessageBytes(own)
		got, _ := Get(table, b)
		for k := range b {
			b[k] ^= 255
		}
		Get(table, b)
		if !room.SameMessage(got, own) {
			t.Errorf("Get's answer has changed with the bytes of %v: %v", own, got)
		}
		m, _ := room.MarkedMessage(own)
		told, _ := Put(table, m)
		overwrite(m)
		Put(table, m)
		if !bytes.Equal(told, room.MessageBytes(own)) {
			t.Errorf("Put's answer has changed with the lists of %v", own)
		}
	}
}

func TestAnswersHangOnArgumentsAlone(t *testing.T) {
	other := crc.New()
	for _, m := range append(room.RightMessages(), room.WrongMessages()...) {
		b, e := Put(table, m)
		again, same := Put(other, m)
		if e != same || !bytes.Equal(b, again) {
			t.Errorf("Put of %v is another with another table", m)
		}
		marked, _ := room.MarkedMessage(m)
		if b, e := Put(table, marked); e != same || !bytes.Equal(b, again) || Right(marked) != Right(m) || Size(marked) != Size(m) {
			t.Errorf("Put, Right or Size of %v hang on spare room", m)
		}
		list, _ := room.Of(again...)
		one, e := Get(table, list)
		two, was := Get(other, again)
		if e != was || !room.SameMessage(one, two) {
			t.Errorf("Get of Put of %v is another with another table, or spare room", m)
		}
	}
}

func TestWithoutATable(t *testing.T) {
	for _, m := range room.RightMessages() {
		if got, e := Put(nil, m); e != api.OK || !bytes.Equal(got, room.MessageText(m)) { // crc's Seal of nil tells the bytes alone
			t.Errorf("Put of %v without a table: %v, %d", m, got, e)
		}
		if got, e := Get(nil, room.MessageBytes(m)); e != api.ErrSum || !room.SameMessage(got, api.Message{}) {
			t.Errorf("Get of the bytes of %v without a table: %v, %d", m, got, e)
		}
	}
	for _, m := range room.WrongMessages() {
		if got, e := Put(nil, m); e != api.ErrForm || len(got) != 0 {
			t.Errorf("Put of %v without a table: %v, %d", m, got, e)
		}
	}
	for seed := range 1000 {
		for _, b := range [][]byte{nil, make([]byte, 4), mixed(seed)} {
			if got, e := Get(nil, b); e != api.ErrSum || !room.SameMessage(got, api.Message{}) {
				t.Errorf("Get of %v without a table: %v, %d", b, got, e)
			}
		}
	}
}

func TestNoCallPanicsWithATableThatNewDidNotMake(t *testing.T) {
	for _, m := range append(room.RightMessages(), room.WrongMessages()...) {
		b, _ := Put(&crc.Table{}, m)
		Get(&crc.Table{}, b)
	}
	for seed := range 1000 {
		Get(&crc.Table{}, mixed(seed))
	}
}
