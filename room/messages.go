package room

import (
	"bytes"
	"math"
	"slices"

	"sherd/api"
)

// Message tells a message of a kind that may be: all but that hangs on seed alone.
func Message(kind, seed int) api.Message {
	b := Some(16, seed)
	ballot := func(k int) int { return Ballots()[int(b[k])%len(Ballots())] }
	names := append(Names(), "")
	m := api.Message{Kind: kind, From: int(b[0]), To: int(b[1]), Ballot: ballot(2), Name: names[int(b[3])%len(names)], Attempt: ballot(4), Epoch: ballot(5), Mark: ballot(6), Size: int(b[7]) % (api.MaxBlob + 1), What: int(b[8])}
	if m.From == m.To {
		m.To++
	}
	for k := range int(b[9]) % 6 {
		m.Who = append(m.Who, ballot(10+k))
	}
	for k := range int(b[15]) % (api.MaxPage + 1) {
		m.Names = append(m.Names, Names()[(int(b[3])+k*k)%len(Names())])
	}
	m.Data = Some(int(b[14])%(api.MaxBlob+1), seed+1)
	return m
}

// BareMessage tells a message in which all is 0, or empty, that may be so.
func BareMessage() api.Message {
	return api.Message{Kind: api.Ask, To: 1}
}

// FullMessage tells a message that has as much of all as one may have.
func FullMessage() api.Message {
	m := api.Message{Kind: api.Mended, From: 255, To: 256, Ballot: mostBallot, Name: longestName, Attempt: mostBallot - 1, Epoch: 0xfffefdfc, Mark: mostBallot, Size: api.MaxBlob, What: 255, Data: Some(api.MaxBlob, 1)}
	for k := range 255 {
		m.Who = append(m.Who, mostBallot-257*k)
	}
	for k := range api.MaxPage {
		m.Names = append(m.Names, longestName[k:]+longestName[:k])
	}
	return m
}

// MixedMessage tells a message all of whose numbers are unlike, with some of each list.
func MixedMessage() api.Message {
	return api.Message{Kind: api.Deal, From: 0x0100, To: 0x0002, Ballot: 0x03040506, Name: "ab", Attempt: 0x0708090a, Epoch: 0x0b0c0d0e, Mark: 0x0f101112, Size: 0x14, What: 0x15, Who: []int{0x16171819, 0x1a}, Names: []string{"pot", "a-b", "0"}, Data: []byte{9, 8, 7}}
}

// FewMessages tells a few messages that may be, from the shortest one to the longest.
func FewMessages() []api.Message {
	return []api.Message{BareMessage(), MixedMessage(), FullMessage(), Message(api.Stage, 1), Message(api.Share, 2), Message(api.Listed, 3)}
}

// RightMessages tells many messages that may be: some of each kind, and such as differ from others in one thing, which is at an end of what it may be.
func RightMessages() []api.Message {
	all := FewMessages()
	for kind := api.Ask; kind <= api.Mended; kind++ {
		for k := range 8 {
			all = append(all, Message(kind, 100*kind+k))
		}
	}
	for _, m := range []api.Message{BareMessage(), MixedMessage()} {
		all = append(all, changedMessages(m, rightChanges())...)
	}
	return all
}

// changedMessages tells what a message becomes by each of some changes.
func changedMessages(m api.Message, changes []func(m *api.Message)) []api.Message {
	var all []api.Message
	for _, change := range changes {
		own := m
		change(&own)
		all = append(all, own)
	}
	return all
}

// rightChanges tells what one may do with a message: then it may be as well.
func rightChanges() []func(m *api.Message) {
	var all []func(m *api.Message)
	for _, n := range Ballots() {
		all = append(all, func(m *api.Message) { m.Ballot = n }, func(m *api.Message) { m.Attempt = n }, func(m *api.Message) { m.Epoch = n }, func(m *api.Message) { m.Mark = n }, func(m *api.Message) { m.Who = []int{n} }, func(m *api.Message) { m.Who = []int{3, n, n} })
	}
	for _, n := range []int{0, 3, 127, 128, 255} {
		all = append(all, func(m *api.Message) { m.From, m.To = n, n+1 }, func(m *api.Message) { m.From, m.To = n+1, n }, func(m *api.Message) { m.What = n }, func(m *api.Message) { m.Who = repeated(7, n) })
	}
	for _, n := range []int{0, 1, 2, 127, 128, 239, 240} {
		all = append(all, func(m *api.Message) { m.Size = n }, func(m *api.Message) { m.Data = Some(n, n) }, func(m *api.Message) { m.Data = make([]byte, n) })
	}
	for _, s := range Names() {
		all = append(all, func(m *api.Message) { m.Name = s }, func(m *api.Message) { m.Names = []string{s} })
	}
	for n := range api.MaxPage + 1 {
		all = append(all, func(m *api.Message) { m.Names = Names()[:n] }, func(m *api.Message) { m.Names = repeated("a", n) })
	}
	return append(all, func(m *api.Message) { m.Name = "" }, func(m *api.Message) { m.Who, m.Names, m.Data = []int{}, []string{}, []byte{} })
}

// WrongMessages tells many messages that may not be, most of which differ in one thing from one that may.
func WrongMessages() []api.Message {
	all := []api.Message{{}, {Kind: math.MaxInt, From: math.MinInt, To: math.MaxInt, Ballot: -1, Name: "-", Size: -1, What: -1, Who: []int{-1}, Names: []string{""}}}
	for _, m := range []api.Message{BareMessage(), MixedMessage()} {
		all = append(all, changedMessages(m, wrongChanges())...)
	}
	return all
}

// wrongChanges tells what one may not do with a message: then it may not be.
func wrongChanges() []func(m *api.Message) {
	var all []func(m *api.Message)
	for _, n := range WrongMessageKinds() {
		all = append(all, func(m *api.Message) { m.Kind = n })
	}
	for _, n := range WrongNodes() {
		all = append(all, func(m *api.Message) { m.From = n }, func(m *api.Message) { m.To = n })
	}
	for _, n := range []int{0, 1, 2, 255, 256, 257, mostBallot, -1} {
		all = append(all, func(m *api.Message) { m.From, m.To = n, n })
	}
	for _, n := range WrongBallots() {
		all = append(all, func(m *api.Message) { m.Ballot = n }, func(m *api.Message) { m.Attempt = n }, func(m *api.Message) { m.Epoch = n }, func(m *api.Message) { m.Mark = n })
		all = append(all, func(m *api.Message) { m.Who = []int{n} }, func(m *api.Message) { m.Who = []int{n, 1, 2} }, func(m *api.Message) { m.Who = append(repeated(1, 254), n) })
	}
	for _, n := range wrongSizes() {
		all = append(all, func(m *api.Message) { m.Size = n })
	}
	for _, n := range append(Ends(), 256, 257, 511, 512, 1<<16, 1<<16+1, wide+1, -255, -256) {
		if n < 0 || n > 255 {
			all = append(all, func(m *api.Message) { m.What = n })
		}
	}
	for _, s := range WrongNames() {
		if s != "" {
			all = append(all, func(m *api.Message) { m.Name = s })
		}
		all = append(all, func(m *api.Message) { m.Names = []string{s} }, func(m *api.Message) { m.Names = []string{s, "a", "b"} }, func(m *api.Message) { m.Names = append(repeated("a", 7), s) })
	}
	for _, n := range []int{256, 257, 300, 511, 512, 513, 1 << 16, 1<<16 + 1} {
		all = append(all, func(m *api.Message) { m.Who = repeated(7, n) })
	}
	for _, n := range []int{9, 10, 16, 255, 256, 257, 264, 1 << 16} {
		all = append(all, func(m *api.Message) { m.Names = repeated("a", n) })
	}
	for _, n := range []int{241, 242, 255, 256, 257, 480, 496, 1 << 16, 1<<16 + 1} {
		all = append(all, func(m *api.Message) { m.Data = Some(n, n) })
	}
	return all
}

// repeated tells so many of one thing.
func repeated[T any](one T, count int) []T {
	return slices.Repeat([]T{one}, count)
}

// WrongMessageKinds tells numbers that are no kind of a message; the lower bytes of some are one's.
func WrongMessageKinds() []int {
	all := append(Ends(), 0, 26, 27, 77, 127, 128, 255, 256, 257, 281, 282, 1<<16+1, wide+2, -3, -25)
	return slices.DeleteFunc(all, func(n int) bool { return api.Ask <= n && n <= api.Mended })
}

// WrongNodes tells numbers that are no node's; the lower bytes of some are one's.
func WrongNodes() []int {
	all := append(Ends(), 257, 258, 511, 512, 1<<16-1, 1<<16, 1<<16+1, 1<<16+256, wide+1, wide+256, -255, -256, -3)
	return slices.DeleteFunc(all, func(n int) bool { return 0 <= n && n <= 256 })
}

// SameMessage tells whether two messages are alike, field by field.
func SameMessage(a, b api.Message) bool {
	numbers := func(m api.Message) []int {
		return append([]int{m.Kind, m.From, m.To, m.Ballot, m.Attempt, m.Epoch, m.Mark, m.Size, m.What}, m.Who...)
	}
	texts := func(m api.Message) []string { return append([]string{m.Name}, m.Names...) }
	return slices.Equal(numbers(a), numbers(b)) && slices.Equal(texts(a), texts(b)) && bytes.Equal(a.Data, b.Data)
}

// MarkedMessage tells a message with marked spare room behind each of its lists, and what tells whether all of that is as it was.
func MarkedMessage(m api.Message) (api.Message, func() bool) {
	who, sameWho := Numbers(m.Who...)
	names, sameNames := Texts(m.Names...)
	data, sameData := Of(m.Data...)
	m.Who, m.Names, m.Data = who, names, data
	return m, func() bool { return sameWho() && sameNames() && sameData() }
}

// MessageText tells the bytes of a message by their words, not sealed; of what has not room there the lower bytes.
func MessageText(m api.Message) []byte {
	two := func(n int) []byte { return []byte{byte(n >> 8), byte(n)} }
	text := func(s string) []byte { return append([]byte{byte(len(s))}, s...) }
	b := slices.Concat([]byte{77, byte(m.Kind)}, two(m.From), two(m.To), fourBytes(m.Ballot), text(m.Name), fourBytes(m.Attempt), fourBytes(m.Epoch), fourBytes(m.Mark), two(m.Size), []byte{byte(m.What), byte(len(m.Who))})
	for _, n := range m.Who {
		b = append(b, fourBytes(n)...)
	}
	b = append(b, byte(len(m.Names)))
	for _, s := range m.Names {
		b = append(b, text(s)...)
	}
	return append(b, text(string(m.Data))...)
}

// MessageBytes tells the bytes of a message by their words.
func MessageBytes(m api.Message) []byte {
	return WithSum(MessageText(m))
}
