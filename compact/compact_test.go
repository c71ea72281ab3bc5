package compact

import (
	"math"
	"slices"
	"testing"

	"sherd/room"
)

// size is how many slots there may be, by the document's words.
const size = 256

// nobody is told of a slot that is in no run.
const nobody = -1

// isApart tells whether runs are apart, slot by slot, by the document's words.
func isApart(l []Run) bool {
	met := map[int]bool{}
	for k, r := range l {
		if r.At < 0 || r.N <= 0 || k > 0 && r.At < l[k-1].At {
			return false
		}
		for i := range r.N {
			if slot := r.At + i; slot >= size || met[slot] {
				return false
			}
			met[r.At+i] = true
		}
	}
	return true
}

// moves tells what goes where of runs apart, by the document's words.
func moves(l []Run) []Move {
	var all []Move
	for k, r := range l {
		to := 0
		for _, ahead := range l[:k] {
			to += ahead.N
		}
		if r.At != to {
			all = append(all, Move{From: r.At, To: to, N: r.N})
		}
	}
	return all
}

// owners tells the place of the run in which each slot is, of runs apart.
func owners(l []Run) [size]int {
	var all [size]int
	for i := range all {
		all[i] = slices.IndexFunc(l, func(r Run) bool { return r.At <= i && i < r.At+r.N })
	}
	return all
}

// gaps tells the runs of slots below slots that have no owner, slot by slot.
func gaps(own [size]int, slots int) []Run {
	var all []Run
	for i := range slots {
		if own[i] != nobody {
			continue
		}
		if i > 0 && own[i-1] == nobody {
			all[len(all)-1].N++
		} else {
			all = append(all, Run{At: i, N: 1})
		}
	}
	return all
}

// apart calls check with all lists of runs apart below most slots, which begin as l does, and go on from at on.
func apart(l []Run, at, most int, check func(l []Run)) {
	check(slices.Clone(l))
	for ; at < most; at++ {
		for n := 1; n <= most-at; n++ {
			apart(append(slices.Clone(l), Run{at, n}), at+n, most, check)
		}
	}
}

// shifted tells runs, each by slots further up.
func shifted(l []Run, by int) []Run {
	all := slices.Clone(l)
	for k := range all {
		all[k].At += by
	}
	return all
}

// mixed tells many runs apart, up to wide - 1 slots long, and up to wide - 1 from one another, which hang on seed beside that alone.
func mixed(wide, seed int) []Run {
	var all []Run
	at := 0
	b := room.Some(2*size, seed)
	for k := 0; k < len(b); k += 2 {
		at += int(b[k]) % wide
		if n := 1 + int(b[k+1])%(wide-1); n <= size-at {
			all = append(all, Run{at, n})
			at += n
		}
	}
	return all
}

// each tells runs of n slots, one every step slots, from at on, as many as there is room for.
func each(at, n, step int) []Run {
	var all []Run
	for ; at+n <= size; at += step {
		all = append(all, Run{at, n})
	}
	return all
}

// wideLists tells lists of runs apart over all slots: the fewest and the most runs, the shortest and the longest ones, and mixed ones.
func wideLists() [][]Run {
	all := [][]Run{
		nil, {}, {{0, 256}}, {{0, 255}}, {{1, 255}}, {{0, 1}}, {{255, 1}}, {{254, 2}}, {{1, 254}}, {{0, 1}, {255, 1}}, {{0, 255}, {255, 1}}, {{0, 1}, {1, 255}}, {{0, 128}, {128, 128}}, {{0, 127}, {129, 127}}, {{100, 1}}, {{1, 1}, {3, 253}}, {{5, 100}, {105, 1}, {106, 150}}, {{200, 56}}, {{3, 2}, {250, 6}},
		each(0, 1, 1), each(0, 1, 2), each(1, 1, 2), each(1, 1, 1), each(0, 2, 3), each(1, 2, 3), each(0, 3, 3), each(7, 5, 6), each(0, 7, 64), each(63, 1, 64), each(2, 9, 10),
	}
	for seed := range 12 {
		all = append(all, mixed(2, seed), mixed(3, seed), mixed(6, seed), mixed(30, seed), mixed(100, seed))
	}
	return all
}

// eachList calls check with many lists of runs apart: all below 7 slots, as they are and at the upper end, and wide ones.
func eachList(check func(l []Run)) {
	apart(nil, 0, 7, func(l []Run) {
		check(l)
		check(shifted(l, size-7))
	})
	for _, l := range wideLists() {
		check(l)
	}
}

// ends tells some numbers at the ends of int's range, of other types' ranges, and about those of slots.
func ends() []int {
	all := append(room.Ends(), 1, 2, 3, 127, 128, 254, 255, 256, 257, 258, 511, 512, 513, 1<<32+1, math.MaxInt-254, math.MinInt+2, math.MinInt+255, math.MinInt+256, math.MinInt+257)
	slices.Sort(all)
	return slices.Compact(all)
}

// wrong tells lists of runs that are not apart.
func wrong() [][]Run {
	all := [][]Run{
		{{}}, {{1, 0}}, {{0, 0}}, {{-1, 1}}, {{-1, 2}}, {{0, -1}}, {{5, -3}}, {{255, 2}}, {{256, 1}}, {{0, 257}}, {{1, 256}}, {{256, 0}}, {{300, 1}}, {{256, -1}}, {{257, -1}},
		{{0, 2}, {1, 1}}, {{0, 2}, {0, 2}}, {{0, 1}, {0, 1}}, {{4, 1}, {2, 1}}, {{2, 1}, {1, 1}}, {{0, 5}, {2, 1}}, {{2, 1}, {0, 5}}, {{3, 3}, {5, 1}}, {{0, 1}, {2, 0}}, {{0, 1}, {1, 0}}, {{3, 0}, {3, 1}}, {{2, 2}, {4, -1}}, {{4, -1}, {5, 1}}, {{0, 1}, {-1, 1}}, {{-1, 1}, {0, 1}}, {{0, 0}, {0, 1}},
		{{0, 1}, {256, 1}}, {{0, 1}, {255, 2}}, {{0, 255}, {254, 2}}, {{0, 256}, {256, 1}}, {{0, 256}, {255, 1}}, {{0, 256}, {0, 256}}, {{0, 1}, {4, 1}, {2, 1}}, {{0, 1}, {2, 3}, {4, 1}}, {{5, 1}, {6, 1}, {5, 1}}, {{0, 1}, {300, 1}}, {{0, 1}, {2, 1}, {4, 0}}, {{8, 1}, {0, 1}},
		each(0, 2, 1), slices.Concat(each(0, 1, 1), []Run{{256, 1}}), slices.Concat(each(0, 1, 1), []Run{{0, 1}}), slices.Concat([]Run{{255, 1}}, each(0, 1, 1)), shifted(each(0, 1, 1), 1), shifted(each(0, 1, 1), -1),
	}
	for _, n := range slices.DeleteFunc(ends(), func(n int) bool { return 0 <= n && n <= size }) {
		all = append(all, []Run{{n, 1}}, []Run{{0, n}}, []Run{{1, n}}, []Run{{255, n}}, []Run{{n, n}}, []Run{{n, -n}}, []Run{{n, 1 - n}}, []Run{{n, size - n}}, []Run{{0, 1}, {n, 1}}, []Run{{0, 1}, {1, n}}, []Run{{n, 1}, {5, 1}}, []Run{{2, n}, {3, 1}})
	}
	return all
}

// checkRuns holds what is told of runs against what is told of their words.
func checkRuns(t *testing.T, l []Run) {
	if !isApart(l) {
		checkNotApart(t, l)
		return
	}
	if !Apart(l) {
		t.Errorf("Apart of %v: false", l)
	}
	if got, want := Moves(l), moves(l); !slices.Equal(got, want) {
		t.Errorf("Moves of %v: %v, want %v", l, got, want)
	}
	own := owners(l)
	for _, slots := range []int{1, 2, 3, 4, 5, 6, 7, 8, 9, 64, 249, 250, 251, 252, 253, 254, 255, 256} {
		if got, want := Gaps(l, slots), gaps(own, slots); !slices.Equal(got, want) {
			t.Errorf("Gaps of %v, %d slots: %v, want %v", l, slots, got, want)
		}
	}
}

// checkNotApart holds that nothing is told of runs that are not apart.
func checkNotApart(t *testing.T, l []Run) {
	if Apart(l) {
		t.Errorf("Apart of %v: true", l)
	}
	if got := Moves(l); len(got) != 0 {
		t.Errorf("Moves of %v, which are not apart: %v", l, got)
	}
	for _, slots := range []int{1, 2, 9, 255, 256} {
		if got := Gaps(l, slots); len(got) != 0 {
			t.Errorf("Gaps of %v, which are not apart, %d slots: %v", l, slots, got)
		}
	}
}

// P23.1

func TestKnownRuns(t *testing.T) {
	for _, test := range []struct {
		l     []Run
		moves []Move
		slots int
		gaps  []Run
	}{
		{nil, nil, 3, []Run{{0, 3}}},
		{[]Run{}, nil, 1, []Run{{0, 1}}},
		{nil, nil, 256, []Run{{0, 256}}},
		{[]Run{{1, 2}, {5, 1}}, []Move{{1, 0, 2}, {5, 2, 1}}, 8, []Run{{0, 1}, {3, 2}, {6, 2}}},
		{[]Run{{0, 2}, {3, 4}, {10, 1}}, []Move{{3, 2, 4}, {10, 6, 1}}, 12, []Run{{2, 1}, {7, 3}, {11, 1}}},
		{[]Run{{0, 2}, {3, 4}, {10, 1}}, []Move{{3, 2, 4}, {10, 6, 1}}, 11, []Run{{2, 1}, {7, 3}}},
		{[]Run{{0, 2}, {3, 4}, {10, 1}}, []Move{{3, 2, 4}, {10, 6, 1}}, 5, []Run{{2, 1}}}, // a run goes on behind the last slot
		{[]Run{{0, 2}, {3, 4}, {10, 1}}, []Move{{3, 2, 4}, {10, 6, 1}}, 2, nil},
		{[]Run{{0, 2}, {2, 1}, {3, 3}}, nil, 7, []Run{{6, 1}}},
		{[]Run{{0, 2}, {2, 1}, {3, 3}}, nil, 6, nil},
		{[]Run{{0, 1}, {2, 1}, {3, 1}}, []Move{{2, 1, 1}, {3, 2, 1}}, 4, []Run{{1, 1}}}, // between runs side by side there is no gap
		{[]Run{{4, 3}}, []Move{{4, 0, 3}}, 4, []Run{{0, 4}}},
		{[]Run{{4, 3}}, []Move{{4, 0, 3}}, 2, []Run{{0, 2}}},
		{[]Run{{1, 5}, {7, 1}}, []Move{{1, 0, 5}, {7, 5, 1}}, 9, []Run{{0, 1}, {6, 1}, {8, 1}}}, // its new slots are its own, but one
		{[]Run{{0, 256}}, nil, 256, nil},
		{[]Run{{255, 1}}, []Move{{255, 0, 1}}, 256, []Run{{0, 255}}},
		{[]Run{{0, 1}, {255, 1}}, []Move{{255, 1, 1}}, 256, []Run{{1, 254}}},
		{[]Run{{1, 255}}, []Move{{1, 0, 255}}, 256, []Run{{0, 1}}},
	} {
		if !Apart(test.l) || !slices.Equal(Moves(test.l), test.moves) || !slices.Equal(Gaps(test.l, test.slots), test.gaps) {
			t.Errorf("%v: apart %t, moves %v, want %v, gaps of %d slots %v, want %v", test.l, Apart(test.l), Moves(test.l), test.moves, test.slots, Gaps(test.l, test.slots), test.gaps)
		}
	}
}

func TestAllListsOfRunsApart(t *testing.T) {
	eachList(func(l []Run) {
		if !isApart(l) {
			t.Fatalf("%v are no runs apart", l)
		}
		checkRuns(t, l)
	})
}

func TestRunsThatAreNotApart(t *testing.T) {
	for _, l := range wrong() {
		if isApart(l) {
			t.Fatalf("%v are runs apart", l)
		}
		checkNotApart(t, l)
	}
}

// near tells all runs from below first to above last, which have too few slots, and up to four.
func near(first, last int) []Run {
	var all []Run
	for at := first; at <= last; at++ {
		for n := -1; n <= 4; n++ {
			all = append(all, Run{at, n})
		}
	}
	return all
}

func TestAllListsOfAFewRuns(t *testing.T) {
	for _, runs := range [][]Run{near(-1, 4), near(252, 257)} {
		for _, a := range runs {
			checkRuns(t, []Run{a})
			for _, b := range runs {
				checkRuns(t, []Run{a, b})
				for _, c := range runs {
					if l := []Run{a, b, c}; Apart(l) != isApart(l) {
						t.Errorf("Apart of %v: %t", l, Apart(l))
					}
				}
			}
		}
	}
}

func TestRunsAtTheEndsOfIntsRange(t *testing.T) {
	for _, at := range ends() {
		for _, n := range ends() {
			r := Run{at, n}
			for _, l := range [][]Run{{r}, {{0, 1}, r}, {{0, 1}, {2, 1}, r}, {r, {255, 1}}, {{0, 1}, r, {255, 1}}, {r, r}} {
				checkRuns(t, l)
			}
		}
	}
}

func TestOneRunOfManyIsAnother(t *testing.T) {
	for seed := range 6 {
		for k, r := range mixed(6, seed) {
			for _, other := range []Run{{r.At, 0}, {r.At, -r.N}, {r.At - size, r.N}, {r.At, size}, {r.At, size + 1}, {r.At, math.MaxInt}, {r.At, math.MinInt}, {math.MaxInt, r.N}, {math.MinInt, r.N}, {r.At + size, r.N}, {r.At + 1, r.N}, {r.At - 1, r.N}, {r.At, r.N + 1}, {r.At, r.N + 6}, {size - r.At, r.N}, {}} {
				l := mixed(6, seed)
				l[k] = other
				checkRuns(t, l)
			}
			l := mixed(6, seed)
			checkNotApart(t, slices.Insert(l, k, r))
			checkNotApart(t, append(mixed(6, seed), r))
			if l = mixed(6, seed); k > 0 {
				l[k-1], l[k] = l[k], l[k-1]
				checkNotApart(t, l)
			}
		}
	}
}

func TestGapsOfEachNumberOfSlots(t *testing.T) {
	for _, l := range wideLists() {
		own := owners(l)
		for slots := 1; slots <= size; slots++ {
			if got, want := Gaps(l, slots), gaps(own, slots); !slices.Equal(got, want) {
				t.Errorf("Gaps of %v, %d slots: %v, want %v", l, slots, got, want)
			}
		}
	}
}

func TestGapsOfTooFewOrTooManySlots(t *testing.T) {
	check := func(l []Run, slots int) {
		if got := Gaps(l, slots); (slots < 1 || slots > size) && len(got) != 0 {
			t.Errorf("Gaps of %v, %d slots: %v", l, slots, got)
		}
	}
	for _, l := range append(wideLists(), wrong()...) {
		for _, slots := range ends() {
			check(l, slots)
		}
	}
	for slots := -600; slots < 1300; slots++ {
		check(nil, slots)
		check([]Run{{1, 2}, {5, 1}}, slots)
		check([]Run{{0, 256}}, slots)
	}
}

// P23.2

// carry does a move of the run at place k, as the slots are owned; false: the run is not there, it does not go down, or its new slots are neither its own nor free.
func carry(own *[size]int, m Move, k, n int) bool {
	if m.N != n || m.To < 0 || m.To >= m.From || m.From+m.N > size {
		return false
	}
	for i := range m.N {
		if own[m.From+i] != k || own[m.To+i] != k && own[m.To+i] != nobody {
			return false
		}
	}
	for i := range m.N {
		own[m.From+i] = nobody
	}
	for i := range m.N {
		own[m.To+i] = k
	}
	return true
}

// carried tells who owns the slots behind all moves, each of which is of a run behind those that were moved ahead; false: one may not be.
func carried(l []Run, all []Move) ([size]int, bool) {
	own := owners(l)
	last := -1
	for _, m := range all {
		k := slices.IndexFunc(l, func(r Run) bool { return r.At == m.From })
		if k <= last || !carry(&own, m, k, l[k].N) {
			return own, false
		}
		last = k
	}
	return own, true
}

// together tells who owns the slots, if runs lie one behind the other, from 0 on.
func together(l []Run) [size]int {
	var all [size]int
	next := 0
	for k, r := range l {
		for range r.N {
			all[next] = k
			next++
		}
	}
	for ; next < size; next++ {
		all[next] = nobody
	}
	return all
}

func TestMovesPutRunsTogether(t *testing.T) {
	eachList(func(l []Run) {
		own, ok := carried(l, Moves(l))
		if !ok || own != together(l) {
			t.Errorf("Moves of %v: %v: one may not be (%t), or the runs don't lie one behind the other", l, Moves(l), !ok)
		}
	})
}

func TestRunsThatAreTogetherStay(t *testing.T) {
	eachList(func(l []Run) {
		next := 0
		there := slices.Clone(l)
		for k, r := range there {
			there[k].At = next
			next += r.N
		}
		if !Apart(there) || len(Moves(there)) != 0 {
			t.Errorf("%v lie one behind the other: apart %t, moves %v", there, Apart(there), Moves(there))
		}
		want := []Run{{next, size - next}}
		if next == size {
			want = nil
		}
		if got := Gaps(there, size); !slices.Equal(got, want) {
			t.Errorf("Gaps of %v, which lie one behind the other: %v, want %v", there, got, want)
		}
	})
}

func TestRunsAheadOfTheFirstGapStay(t *testing.T) {
	l := each(0, 1, 1)
	for k := range l {
		left := slices.Concat(l[:k], l[k+1:])
		all := Moves(left)
		if len(all) != size-1-k || k < size-1 && all[0] != (Move{From: k + 1, To: k, N: 1}) {
			t.Errorf("Moves of all slots but %d: %d, %v", k, len(all), all)
		}
	}
}

// Gaps and runs together.

func TestGapsFillUpWhatRunsLeave(t *testing.T) {
	eachList(func(l []Run) {
		whole := slices.Concat(l, Gaps(l, size))
		slices.SortFunc(whole, func(a, b Run) int { return a.At - b.At })
		if !Apart(whole) || len(Moves(whole)) != 0 || len(Gaps(whole, size)) != 0 {
			t.Errorf("%v, and their gaps %v, are not all slots", l, Gaps(l, size))
		}
	})
}

// The rules that hold everywhere, of each call.

func TestRunsAreNotChanged(t *testing.T) {
	for _, l := range append(wideLists(), wrong()...) {
		given, unchanged := room.Marked(l, Run{170, 1}, Run{171, 2}, Run{172, 3}, Run{173, 4})
		Apart(given)
		Moves(given)
		for _, slots := range []int{-1, 0, 1, 5, 100, 256, 257} {
			Gaps(given, slots)
		}
		if !unchanged() {
			t.Errorf("%v, or the room behind them, changed", l)
		}
	}
}

// overwrite writes over a list, and its spare room.
func overwrite[T any](l []T, with T) {
	for k := range l[:cap(l)] {
		l[:cap(l)][k] = with
	}
}

func TestAnswersAreNewMemory(t *testing.T) {
	for _, l := range wideLists() {
		given, unchanged := room.Marked(l, Run{170, 1}, Run{171, 2}, Run{172, 3}, Run{173, 4})
		gone, free := Moves(given), Gaps(given, size)
		kept, left := slices.Clone(gone), slices.Clone(free)
		overwrite(Moves(given), Move{9, 9, 9})
		overwrite(Gaps(given, size), Run{9, 9})
		if !slices.Equal(gone, kept) || !slices.Equal(free, left) {
			t.Errorf("of %v: two answers share memory", l)
		}
		if !unchanged() {
			t.Errorf("of %v: an answer is in their memory", l)
		}
		if !slices.Equal(Moves(given), kept) || !slices.Equal(Gaps(given, size), left) {
			t.Errorf("of %v: other answers, when ahead ones were written over", l)
		}
	}
}

func TestAnswersStayWhenRunsAreChanged(t *testing.T) {
	for _, l := range wideLists() {
		given := slices.Clone(l)
		gone, free := Moves(given), Gaps(given, size)
		overwrite(given, Run{9, 9})
		if !slices.Equal(gone, moves(l)) || !slices.Equal(free, gaps(owners(l), size)) {
			t.Errorf("of %v: answers changed with them", l)
		}
	}
}

func TestAnswersHangOnRunsAlone(t *testing.T) {
	for _, l := range wideLists() {
		gone, free := Moves(l), Gaps(l, 200)
		for _, other := range wideLists()[:25] {
			Moves(other)
			Gaps(other, 9)
		}
		Moves(wrong()[0])
		if !slices.Equal(Moves(l), gone) || !slices.Equal(Gaps(l, 200), free) || !Apart(l) {
			t.Errorf("of %v: other answers another time", l)
		}
	}
}
