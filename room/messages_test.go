package room

import (
	"bytes"
	"math"
	"slices"
	"testing"

	"sherd/api"
	"sherd/crc"
	"sherd/msg"
)

func TestMessageMayBe(t *testing.T) {
	for kind := api.Ask; kind <= api.Mended; kind++ {
		met := map[string]int{}
		for seed := range 300 {
			m := Message(kind, seed)
			if !msg.Right(m) || m.Kind != kind {
				t.Errorf("Message of kind %d: %v", kind, m)
			}
			again := Message(kind, seed)
			if !SameMessage(m, again) || Shared(m.Data, again.Data) != -1 {
				t.Errorf("Message of kind %d: another one with the same seed, or the same bytes", kind)
			}
			met[string(MessageText(m))]++
		}
		if len(met) < 200 {
			t.Errorf("Message of kind %d: only %d unlike ones", kind, len(met))
		}
	}
}

func TestRightMessagesMayBe(t *testing.T) {
	for _, m := range RightMessages() {
		if !msg.Right(m) {
			t.Errorf("%v may not be", m)
		}
	}
	few := FewMessages()
	shortest, longest := MessageBytes(few[0]), MessageBytes(few[2])
	if len(shortest) != 33 || len(longest) != 33+16+4*255+8*17+240 {
		t.Errorf("the shortest of the few has %d bytes, the longest %d", len(shortest), len(longest))
	}
}

func TestRightMessagesAreAtTheirEnds(t *testing.T) {
	all := RightMessages()
	for name, is := range map[string]func(m api.Message) bool{
		"of the first kind":          func(m api.Message) bool { return m.Kind == 1 },
		"of the last kind":           func(m api.Message) bool { return m.Kind == 25 },
		"from 0":                     func(m api.Message) bool { return m.From == 0 },
		"from 256":                   func(m api.Message) bool { return m.From == 256 },
		"to 0":                       func(m api.Message) bool { return m.To == 0 },
		"to 256":                     func(m api.Message) bool { return m.To == 256 },
		"with the greatest ballot":   func(m api.Message) bool { return m.Ballot == math.MaxUint32 },
		"with the greatest attempt":  func(m api.Message) bool { return m.Attempt == math.MaxUint32 },
		"with the greatest epoch":    func(m api.Message) bool { return m.Epoch == math.MaxUint32 },
		"with the greatest mark":     func(m api.Message) bool { return m.Mark == math.MaxUint32 },
		"with the greatest of Who":   func(m api.Message) bool { return slices.Contains(m.Who, math.MaxUint32) },
		"with the size 0":            func(m api.Message) bool { return m.Size == 0 && m.Ballot > 0 },
		"with the size 240":          func(m api.Message) bool { return m.Size == 240 },
		"with the greatest What":     func(m api.Message) bool { return m.What == 255 },
		"with an empty name":         func(m api.Message) bool { return m.Name == "" && m.Ballot > 0 },
		"with a name of 16 bytes":    func(m api.Message) bool { return len(m.Name) == 16 },
		"with 255 of Who":            func(m api.Message) bool { return len(m.Who) == 255 },
		"with eight names":           func(m api.Message) bool { return len(m.Names) == 8 },
		"with a name that is twice":  func(m api.Message) bool { return len(m.Names) > 1 && m.Names[0] == m.Names[1] },
		"with names that don't rise": func(m api.Message) bool { return len(m.Names) > 1 && m.Names[0] > m.Names[1] },
		"with 240 bytes":             func(m api.Message) bool { return len(m.Data) == 240 },
		"with empty lists":           func(m api.Message) bool { return m.Who != nil && len(m.Who) == 0 && len(m.Names)+len(m.Data) == 0 },
	} {
		if !slices.ContainsFunc(all, is) {
			t.Errorf("RightMessages: none %s", name)
		}
	}
}

func TestWrongMessagesMayNotBe(t *testing.T) {
	all := WrongMessages()
	for _, m := range all {
		if msg.Right(m) {
			t.Errorf("%v may be", m)
		}
	}
	for name, is := range map[string]func(m api.Message) bool{
		"of kind 0":                func(m api.Message) bool { return m.Kind == 0 && m.To > 0 },
		"of kind 26":               func(m api.Message) bool { return m.Kind == 26 },
		"from 257":                 func(m api.Message) bool { return m.From == 257 },
		"to 257":                   func(m api.Message) bool { return m.To == 257 },
		"to who sent it":           func(m api.Message) bool { return m.Kind > 0 && m.From == 256 && m.To == 256 },
		"with a ballot too great":  func(m api.Message) bool { return m.Ballot == math.MaxUint32+1 },
		"with an attempt below 0":  func(m api.Message) bool { return m.Attempt == -1 },
		"with an epoch too great":  func(m api.Message) bool { return m.Epoch == math.MaxUint32+1 },
		"with a mark below 0":      func(m api.Message) bool { return m.Mark == -1 },
		"with the size 241":        func(m api.Message) bool { return m.Size == 241 },
		"with a What of 256":       func(m api.Message) bool { return m.What == 256 },
		"with 256 of Who":          func(m api.Message) bool { return len(m.Who) == 256 },
		"with the last of Who bad": func(m api.Message) bool { return len(m.Who) == 255 && m.Who[254] < 0 },
		"with nine names":          func(m api.Message) bool { return len(m.Names) == 9 },
		"with an empty one":        func(m api.Message) bool { return len(m.Names) == 8 && m.Names[7] == "" },
		"with 241 bytes":           func(m api.Message) bool { return len(m.Data) == 241 },
		"with a name of 17 bytes":  func(m api.Message) bool { return len(m.Name) == 17 },
	} {
		if !slices.ContainsFunc(all, is) {
			t.Errorf("WrongMessages: none %s", name)
		}
	}
}

func TestWrongMessageKindsAndNodes(t *testing.T) {
	for name, test := range map[string]struct {
		got       []int
		low, high int
	}{"WrongMessageKinds": {WrongMessageKinds(), 1, 25}, "WrongNodes": {WrongNodes(), 0, 256}} {
		for _, n := range []int{math.MinInt, -1, test.low - 1, test.high + 1, test.high + 256, 1<<16 + 1, math.MaxInt} {
			if !slices.Contains(test.got, n) {
				t.Errorf("%s: no %d", name, n)
			}
		}
		if slices.ContainsFunc(test.got, func(n int) bool { return test.low <= n && n <= test.high }) {
			t.Errorf("%s: %v", name, test.got)
		}
	}
}

func TestSameMessage(t *testing.T) {
	all := []api.Message{{}, {Kind: 1}, {From: 1}, {To: 1}, {Ballot: 1}, {Name: "a"}, {Attempt: 1}, {Epoch: 1}, {Mark: 1}, {Size: 1}, {What: 1}, {Who: []int{0}}, {Who: []int{1}}, {Who: []int{0, 0}}, {Names: []string{""}}, {Names: []string{"a"}}, {Names: []string{"", ""}}, {Data: []byte{0}}, {Data: []byte{1}}, {Data: []byte{0, 0}}}
	for a := range all {
		for b := range all {
			if got := SameMessage(all[a], all[b]); got != (a == b) {
				t.Errorf("SameMessage of %v and %v: %t", all[a], all[b], got)
			}
		}
	}
	if !SameMessage(api.Message{}, api.Message{Who: []int{}, Names: []string{}, Data: []byte{}}) {
		t.Error("SameMessage of lists that are nil, and empty ones: false")
	}
}

func TestMarkedMessage(t *testing.T) {
	for _, own := range RightMessages() {
		m, unchanged := MarkedMessage(own)
		if !SameMessage(m, own) || !unchanged() {
			t.Errorf("MarkedMessage of %v: %v", own, m)
		}
	}
	for name, change := range map[string]func(m api.Message){
		"one of Who":          func(m api.Message) { m.Who[1]++ },
		"the room behind Who": func(m api.Message) { _ = append(m.Who, 5) },
		"a name":              func(m api.Message) { m.Names[2] = "x" },
		"the room behind":     func(m api.Message) { _ = append(m.Names, "x") },
		"a byte":              func(m api.Message) { m.Data[0]++ },
		"the last room":       func(m api.Message) { _ = append(m.Data, 5) },
	} {
		m, unchanged := MarkedMessage(MixedMessage())
		if change(m); unchanged() {
			t.Errorf("MarkedMessage: %s was changed, and is not told", name)
		}
	}
}

func TestMessageBytes(t *testing.T) {
	table := crc.New()
	for _, own := range RightMessages() {
		m, unchanged := MarkedMessage(own)
		if want, e := msg.Put(table, m); e != api.OK || !bytes.Equal(MessageBytes(m), want) || !unchanged() {
			t.Errorf("the bytes of %v: %v", own, MessageBytes(m))
		}
	}
	known := []byte{77, 9, 1, 0, 0, 2, 3, 4, 5, 6, 2, 97, 98, 7, 8, 9, 10, 11, 12, 13, 14, 15, 16, 17, 18, 0, 20, 21, 2, 22, 23, 24, 25, 0, 0, 0, 26, 3, 3, 112, 111, 116, 3, 97, 45, 98, 1, 48, 3, 9, 8, 7}
	if got := MessageText(MixedMessage()); !bytes.Equal(got, known) {
		t.Errorf("MessageText: %v, want %v", got, known)
	}
}
