package room

import (
	"bytes"
	"hash/crc32"
	"math"
	"slices"
	"testing"

	"sherd/api"
	"sherd/crc"
	"sherd/disk"
	"sherd/entry"
	"sherd/journal"
)

func TestChangesAreUnlikeAndMixed(t *testing.T) {
	for full := range 30 {
		for _, bare := range []int{0, 1, 5, 60, 479 - full} {
			l := Changes(full, bare, full)
			met, with := map[int]int{}, 0
			for _, c := range l {
				met[c.At]++
				if len(c.Data) != 0 {
					with++
				}
				if c.At != 0 && (c.At < 34 || c.At > 511) || len(c.Data) != 0 && !bytes.Equal(c.Data, FullChange(c.At).Data) {
					t.Errorf("Changes with %d and %d: %v", full, bare, c)
				}
			}
			if len(l) != full+bare || len(met) != len(l) || with != full {
				t.Errorf("Changes with %d and %d: %v", full, bare, l)
			}
			if !SameChanges(l, Changes(full, bare, full)) || len(l) > 4 && SameChanges(l, Changes(full, bare, full+1)) {
				t.Errorf("Changes with %d and %d: others with the same seed, or the same with another one", full, bare)
			}
		}
	}
	if c := FullChange(300); c.At != 300 || len(c.Data) != 64 || bytes.Equal(c.Data, FullChange(301).Data) || Shared(c.Data, FullChange(300).Data) != -1 {
		t.Errorf("FullChange: %v", c)
	}
}

func TestRightChangesMayBe(t *testing.T) {
	bodies := map[int]int{}
	for _, l := range append(RightChanges(), FewChanges()...) {
		if e := entry.Check(l); e != api.OK {
			t.Errorf("%v may not be: %d", l, e)
		}
		bodies[len(ChangesSectors(l))-1]++
	}
	for n := range 34 {
		if bodies[n] == 0 && 1 <= n && n <= 32 || bodies[n] != 0 && (n < 1 || n > 32) {
			t.Errorf("of %d bodies there are %d", n, bodies[n])
		}
	}
}

func TestWrongPlacesMayNotBe(t *testing.T) {
	all := WrongPlaces()
	for _, at := range all {
		if e := entry.Check([]api.Change{{At: at}}); e != api.ErrRange {
			t.Errorf("a change at %d: %d", at, e)
		}
	}
	for _, at := range []int{math.MinInt, -1, 1, 33, 512, 1<<16 + 34, 1<<32 + 34, math.MaxInt} {
		if !slices.Contains(all, at) {
			t.Errorf("WrongPlaces: no %d", at)
		}
	}
}

func TestEachFaultyTellsTheFirstError(t *testing.T) {
	met := map[api.Errno]int{}
	EachFaulty(func(l []api.Change, want api.Errno) {
		met[want]++
		if e := entry.Check(l); e != want {
			t.Errorf("%v: %d, want %d", l, e, want)
		}
	})
	for _, e := range []api.Errno{api.OK, api.ErrRange, api.ErrTwice, api.ErrForm, api.ErrFull} {
		if met[e] < 100 {
			t.Errorf("with %d: %d", e, met[e])
		}
	}
	if len(met) != 5 {
		t.Errorf("errors: %v", met)
	}
}

func TestSameChanges(t *testing.T) {
	full := FullChange(34)
	lists := [][]api.Change{nil, {{At: 34}}, {{At: 35}}, {full}, {{At: 35, Data: full.Data}}, {{At: 34, Data: make([]byte, 64)}}, {{At: 34}, full}, {full, {At: 34}}, {full, full}}
	for a := range lists {
		for b := range lists {
			if got := SameChanges(lists[a], lists[b]); got != (a == b) {
				t.Errorf("SameChanges of %v and %v: %t", lists[a], lists[b], got)
			}
		}
	}
	if !SameChanges(nil, []api.Change{}) || !SameChanges([]api.Change{{}}, []api.Change{{Data: []byte{}}}) {
		t.Error("SameChanges of lists that are nil, and empty ones: false")
	}
}

func TestMarkedChangesSeesChanges(t *testing.T) {
	for _, l := range [][]api.Change{nil, {{At: 34}}, {FullChange(40)}, Changes(2, 3, 1)} {
		list, unchanged := MarkedChanges(l)
		if !SameChanges(list, l) || cap(list) <= len(list) || !unchanged() {
			t.Fatalf("MarkedChanges of %v: %v", l, list)
		}
		for k := range list[:len(l)+1] {
			c := &list[:cap(list)][k]
			kept := *c
			for n, change := range []func(){
				func() { c.At++ }, func() { c.Data = nil }, func() { c.Data = bytes.Clone(c.Data) }, func() { c.Data = c.Data[:len(c.Data)+1] }, func() { c.Data = c.Data[:len(c.Data):len(c.Data)] },
			} {
				if change(); unchanged() {
					t.Errorf("MarkedChanges of %v: change %d of number %d is not seen", l, n, k)
				}
				*c = kept
			}
			for place := range whole(c.Data)[:len(c.Data)+4] {
				whole(c.Data)[place] ^= 1
				if unchanged() {
					t.Errorf("MarkedChanges of %v: a change of number %d at byte %d is not seen", l, k, place)
				}
				whole(c.Data)[place] ^= 1
			}
		}
		if !unchanged() {
			t.Errorf("MarkedChanges of %v: changed back", l)
		}
		for k := range l {
			if Shared(l[k].Data, list[k].Data) != -1 {
				t.Errorf("MarkedChanges of %v: number %d is no copy", l, k)
			}
		}
	}
}

func TestChangesSectors(t *testing.T) {
	table := crc.New()
	for _, l := range RightChanges() {
		if want, e := entry.Put(table, l); e != api.OK || !Same(ChangesSectors(l), want) {
			t.Errorf("the sectors of %v: %v", l, ChangesSectors(l))
		}
	}
	known := []api.Change{{At: 511}, {At: 0}}
	text := []byte{0, 2, 1, 255, 0, 0, 0, 0}
	sum := crc32.ChecksumIEEE(text)
	want := [][]byte{{106, 1, 0, 8, byte(sum >> 24), byte(sum >> 16), byte(sum >> 8), byte(sum)}, append([]byte{98, 0}, text...)}
	if !bytes.Equal(ChangesText(known), text) || !Same(TextPayloads(text), want) || !Same(ChangesSectors(known), [][]byte{Sealed(want[0]), Sealed(want[1])}) {
		t.Errorf("of %v: the text %v, with the payloads %v", known, ChangesText(known), TextPayloads(text))
	}
	for _, n := range []int{0, 1, 57, 58, 59, 116, 117, 58 * 33} {
		all := TextPayloads(Some(n, 1))
		bodies := all[1:]
		if len(bodies) != (n+57)/58 || int(all[0][1]) != len(bodies) || int(all[0][2])<<8+int(all[0][3]) != n {
			t.Errorf("of a text of %d bytes: %v", n, all)
		}
		for k, body := range bodies {
			if want := append([]byte{98, byte(k)}, Some(n, 1)[58*k:min(58*k+58, n)]...); !bytes.Equal(body, want) {
				t.Errorf("of a text of %d bytes: %v as body %d", n, body, k)
			}
		}
	}
}

func TestJournalWrites(t *testing.T) {
	if got := JournalWrites(nil); len(got) != 0 {
		t.Errorf("JournalWrites without changes: %v", got)
	}
	l := []api.Change{FullChange(0), {At: 34}}
	sectors := ChangesSectors(l)
	want := []api.Change{{At: 2, Data: sectors[1]}, {At: 3, Data: sectors[2]}, {At: 1, Data: sectors[0]}, l[0], l[1], {At: 1}, {At: 2}, {At: 3}}
	if got := JournalWrites(l); !SameChanges(got, want) || len(sectors) != 3 {
		t.Errorf("JournalWrites of %v: %v, want %v", l, got, want)
	}
	for _, l := range RightChanges() {
		list, unchanged := MarkedChanges(l)
		writes := JournalWrites(list)
		d := disk.New(512)
		d.Power(len(writes))
		if e := journal.Do(crc.New(), d, l); e != api.OK || d.Write(0, nil) || !bytes.Equal(d.Image(), Written(make([]byte, 64*512), writes)) || !unchanged() {
			t.Errorf("JournalWrites of %v: %d writes", l, len(writes))
		}
	}
}

func TestWritten(t *testing.T) {
	image := Some(64*3, 1)
	list, unchanged := Of(image...)
	other := FullChange(1).Data
	for _, test := range []struct {
		l    []api.Change
		want []byte
	}{
		{nil, image},
		{[]api.Change{{At: 1, Data: other}}, slices.Concat(image[:64], other, image[128:])},
		{[]api.Change{{At: 0}}, slices.Concat(make([]byte, 64), image[64:])},
		{[]api.Change{{At: 2, Data: other}, {At: 0, Data: other}, {At: 2}}, slices.Concat(other, image[64:128], make([]byte, 64))},
	} {
		if got := Written(list, test.l); !bytes.Equal(got, test.want) || !unchanged() || Shared(list, got) != -1 {
			t.Errorf("Written with %v: %v, want %v, and one of its own", test.l, got, test.want)
		}
		list, unchanged = Of(image...)
	}
}

func TestAllSealed(t *testing.T) {
	for _, payloads := range [][][]byte{nil, {nil}, {{1}, {2, 3}, Some(60, 1)}} {
		all := AllSealed(payloads)
		if len(all) != len(payloads) {
			t.Fatalf("AllSealed of %v: %v", payloads, all)
		}
		for k, payload := range payloads {
			if !bytes.Equal(all[k], Sealed(payload)) {
				t.Errorf("AllSealed of %v: %v", payloads, all)
			}
		}
	}
}
