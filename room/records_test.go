package room

import (
	"math"
	"slices"
	"testing"

	"sherd/api"
	"sherd/crc"
	"sherd/record"
)

func TestRecordMayBe(t *testing.T) {
	for kind := api.Staged; kind <= api.Delta; kind++ {
		met := map[int]int{}
		for seed := range 300 {
			length := seed % 241
			r := Record(kind, length, seed)
			if want := (kind != api.Hollow && kind != api.Gone); !record.Right(r) || r.Kind != kind || want && len(r.Share) != length {
				t.Errorf("Record of kind %d with %d bytes: %v", kind, length, r)
			}
			if again := Record(kind, length, seed); !SameRecord(r, again) || Shared(r.Share, again.Share) != -1 {
				t.Errorf("Record of kind %d with %d bytes: another one with the same seed, or the same share", kind, length)
			}
			met[r.Attempt+r.Epoch+r.Mark+r.Size]++
		}
		if len(met) < 20 {
			t.Errorf("Record of kind %d: only %d unlike ones", kind, len(met))
		}
	}
}

func TestRightRecordsMayBe(t *testing.T) {
	for _, all := range [][]api.Record{FewRecords(), RightRecords()} {
		met := map[[2]int]int{}
		for _, r := range all {
			if !record.Right(r) {
				t.Errorf("%v may not be", r)
			}
			met[[2]int{r.Kind, len(RecordSectors(r))}]++
		}
		for kind := api.Staged; kind <= api.Delta; kind++ {
			if met[[2]int{kind, 1}] == 0 || (kind != api.Hollow && kind != api.Gone) && (met[[2]int{kind, 2}] == 0 || met[[2]int{kind, 6}] == 0) {
				t.Errorf("of kind %d there are, by how many sectors: %v", kind, met)
			}
		}
	}
}

func TestRightRecordsAreAtTheirEnds(t *testing.T) {
	all := RightRecords()
	for kind := api.Staged; kind <= api.Delta; kind++ {
		for _, n := range Ballots() {
			for field, of := range []func(r api.Record) int{func(r api.Record) int { return r.Attempt }, func(r api.Record) int { return r.Epoch }, func(r api.Record) int { return r.Mark }} {
				zero := kind == api.Gone && field < 2 || kind == api.Staged && field == 2
				is := func(r api.Record) bool { return r.Kind == kind && of(r) == n }
				if want := zero == (n == 0); slices.ContainsFunc(all, is) != want {
					t.Errorf("of kind %d, with %d as number %d: %t", kind, n, field, !want)
				}
			}
		}
		for _, n := range []int{0, 1, 239, 240} {
			is := func(r api.Record) bool { return r.Kind == kind && r.Size == n }
			if want := kind != api.Gone || n == 0; slices.ContainsFunc(all, is) != want {
				t.Errorf("of kind %d, with the size %d: %t", kind, n, !want)
			}
		}
	}
}

func TestLengths(t *testing.T) {
	all := Lengths()
	for _, n := range []int{0, 1, 47, 48, 49, 96, 97, 192, 193, 239, 240} {
		if !slices.Contains(all, n) {
			t.Errorf("Lengths: no %d", n)
		}
	}
	if !slices.IsSorted(all) || all[0] != 0 || all[len(all)-1] != api.MaxBlob {
		t.Errorf("Lengths: %v", all)
	}
}

func TestWrongRecordsMayNotBe(t *testing.T) {
	all := WrongRecords()
	for _, r := range all {
		if record.Right(r) {
			t.Errorf("%v may be", r)
		}
	}
	for name, is := range map[string]func(r api.Record) bool{
		"of no kind":              func(r api.Record) bool { return r.Kind == 0 && r.Name == "" },
		"of kind 6":               func(r api.Record) bool { return r.Kind == 6 },
		"with an empty name":      func(r api.Record) bool { return r.Kind == api.Live && r.Name == "" },
		"with 241 bytes":          func(r api.Record) bool { return r.Kind == api.Delta && len(r.Share) == 241 },
		"with the size 241":       func(r api.Record) bool { return r.Kind == api.Delta && r.Size == 241 },
		"of no attempt":           func(r api.Record) bool { return r.Kind == api.Live && r.Attempt == 0 && r.Epoch > 0 },
		"with a mark too great":   func(r api.Record) bool { return r.Kind == api.Gone && r.Mark == math.MaxUint32+1 },
		"Hollow with a share":     func(r api.Record) bool { return r.Kind == api.Hollow && len(r.Share) == 1 },
		"Gone with a size":        func(r api.Record) bool { return r.Kind == api.Gone && r.Size == 1 && r.Mark > 0 },
		"Staged of another epoch": func(r api.Record) bool { return r.Kind == api.Staged && r.Epoch > 0 && r.Epoch != r.Attempt },
	} {
		if !slices.ContainsFunc(all, is) {
			t.Errorf("WrongRecords: none %s", name)
		}
	}
}

func TestWrongKinds(t *testing.T) {
	all := WrongKinds()
	for _, n := range []int{math.MinInt, -1, 0, 6, 257, math.MaxInt} {
		if !slices.Contains(all, n) {
			t.Errorf("WrongKinds: no %d", n)
		}
	}
	for kind := 1; kind <= 5; kind++ {
		if slices.Contains(all, kind) {
			t.Errorf("WrongKinds: %d", kind)
		}
	}
}

func TestSameRecord(t *testing.T) {
	all := []api.Record{{}, {Kind: 1}, {Name: "a"}, {Attempt: 1}, {Epoch: 1}, {Mark: 1}, {Size: 1}, {Share: []byte{0}}, {Share: []byte{1}}, {Share: []byte{0, 0}}}
	for a := range all {
		for b := range all {
			if got := SameRecord(all[a], all[b]); got != (a == b) {
				t.Errorf("SameRecord of %v and %v: %t", all[a], all[b], got)
			}
		}
	}
	if !SameRecord(api.Record{}, api.Record{Share: []byte{}}) {
		t.Error("SameRecord of a share that is nil, and an empty one: false")
	}
}

func TestRecordSectors(t *testing.T) {
	table := crc.New()
	for _, r := range RightRecords() {
		share, unchanged := Of(r.Share...)
		r.Share = share
		if want, e := record.Put(table, r); e != api.OK || !Same(RecordSectors(r), want) || !unchanged() {
			t.Errorf("the sectors of %v: %v", r, RecordSectors(r))
		}
	}
	head := []byte{72, 5, 2, 'a', 'b', 0, 0, 0, 0, 0, 0, 0, 0, 0, 0, 0, 0, 0, 0, 1, 2, 3, 4, 0, 0, 0, 3, 255, 254, 253, 252, 0, 60, 49}
	share := Some(49, 1)
	bodies := [][]byte{slices.Concat([]byte{66, 0, 5, 1, 2, 3, 4, 0, 0, 0, 3, 48}, share[:48]), {66, 1, 5, 1, 2, 3, 4, 0, 0, 0, 3, 1, share[48]}}
	known := api.Record{Kind: api.Delta, Name: "ab", Attempt: 0x01020304, Epoch: 3, Mark: 0xfffefdfc, Size: 60, Share: share}
	if got := RecordPayloads(known); !Same(got, append([][]byte{head}, bodies...)) || !Same(RecordSectors(known), AllSealed(got)) {
		t.Errorf("of %v: the payloads %v", known, got)
	}
}
