package tests

import (
	"fmt"
	"math"
	"math/rand/v2"
	"slices"
	"testing"

	"loop.example/g00412/impl"
)

func bootOf(bank, number, floor int) impl.Boot {
	return impl.Boot{Bank: bank, Number: number, Floor: floor}
}

func trialOf(bank, number, floor, tries, old int) impl.Boot {
	return impl.Boot{Bank: bank, Number: number, Floor: floor, Trial: true, Tries: tries, Old: old}
}

func wantBootOk(b impl.Boot) bool {
	fine := within(b.Bank, 0, 1) && within(b.Number, 1, mostVersion) && within(b.Floor, 0, mostVersion) &&
		within(b.Old, 0, mostVersion) && within(b.Tries, 0, mostTries)
	if b.Trial {
		return fine && b.Old >= 1
	}
	return fine && b.Old == 0 && b.Tries == 0
}

// wantFits wants a state and a record that may be.
func wantFits(b impl.Boot, r impl.Rec) bool {
	switch r.Kind {
	case kindDo:
		return !b.Trial && r.Bank != b.Bank
	case kindTry:
		return b.Trial && b.Tries < mostTries
	case kindKeep, kindBack:
		return b.Trial
	}
	return false
}

func wantStep(b impl.Boot, r impl.Rec) (impl.Boot, bool) {
	if !wantBootOk(b) || !wantRecOk(r) {
		return impl.Boot{}, false
	}
	if !wantFits(b, r) {
		return b, false
	}
	switch r.Kind {
	case kindDo:
		return trialOf(r.Bank, r.Number, b.Floor, 0, b.Number), true
	case kindTry:
		return trialOf(b.Bank, b.Number, b.Floor, b.Tries+1, b.Old), true
	case kindBack:
		return bootOf((b.Bank+1)%2, b.Old, b.Floor), true
	}
	if r.Floor > b.Floor {
		return bootOf(b.Bank, b.Number, r.Floor), true
	}
	return bootOf(b.Bank, b.Number, b.Floor), true
}

func wantFold(l []impl.Rec) (impl.Boot, bool) {
	if !within(len(l), 2, allPlaces) || l[0].Kind != kindHead || l[1].Kind != kindSet {
		return impl.Boot{}, false
	}
	for _, r := range l {
		if !wantRecOk(r) {
			return impl.Boot{}, false
		}
	}
	b := bootOf(l[1].Bank, l[1].Number, l[1].Floor)
	for _, r := range l[2:] {
		b, _ = wantStep(b, r)
	}
	return b, true
}

func wantSummary(b impl.Boot) []impl.Rec {
	if !wantBootOk(b) {
		return nil
	}
	if !b.Trial {
		return []impl.Rec{recOf(kindSet, b.Bank, b.Number, b.Floor)}
	}
	tries := slices.Repeat([]impl.Rec{recOf(kindTry, 0, 0, 0)}, mostTries)
	return append([]impl.Rec{recOf(kindSet, (b.Bank+1)%2, b.Old, b.Floor), recOf(kindDo, b.Bank, b.Number, 0)}, tries[:b.Tries]...)
}

func wantBootText(b impl.Boot) string {
	if !wantBootOk(b) {
		return ""
	}
	text := fmt.Sprintf("bank %d %d %d\n", b.Bank, b.Number, b.Floor)
	if b.Trial {
		text += fmt.Sprintf("trial %d %d\n", b.Tries, b.Old)
	}
	return text
}

// checkStep holds the promise by itself, beside what the chapter names.
func checkStep(t *testing.T, b impl.Boot, r impl.Rec) (impl.Boot, bool) {
	t.Helper()
	got, ok := impl.Step(b, r)
	if want, wantOk := wantStep(b, r); ok != wantOk || got != want {
		t.Fatalf("Step(%+v, %+v) = %+v, %v, want %+v, %v", b, r, got, ok, want, wantOk)
	}
	if !impl.BootOk(b) || !impl.RecOk(r) {
		if ok || got != (impl.Boot{}) {
			t.Fatalf("Step(%+v, %+v) = %+v, %v", b, r, got, ok)
		}
		return got, ok
	}
	if !impl.BootOk(got) || got.Floor < b.Floor {
		t.Fatalf("Step(%+v, %+v) = %+v: it may not be, or its Floor is lower", b, r, got)
	}
	if !ok && got != b {
		t.Fatalf("Step(%+v, %+v) does not fit, but it is %+v", b, r, got)
	}
	return got, ok
}

// checkBoot asks all that hangs on a state alone.
func checkBoot(t *testing.T, b impl.Boot) {
	t.Helper()
	if got := impl.BootOk(b); got != wantBootOk(b) {
		t.Fatalf("BootOk(%+v) = %v", b, got)
	}
	if got := impl.BootText(b); string(got) != wantBootText(b) {
		t.Fatalf("BootText(%+v) = %q", b, got)
	}
	summary := impl.Summary(b)
	if !slices.Equal(summary, wantSummary(b)) {
		t.Fatalf("Summary(%+v) = %v, want %v", b, summary, wantSummary(b))
	}
	if wantBootOk(b) {
		checkSummaryComesBack(t, b)
	}
}

func checkSummaryComesBack(t *testing.T, b impl.Boot) {
	t.Helper()
	for _, number := range []int{0, 1, 500, mostVersion} {
		l := append([]impl.Rec{recOf(kindHead, 0, number, 0)}, impl.Summary(b)...)
		if got, ok := impl.Fold(l); !ok || got != b {
			t.Fatalf("%+v came back as %+v, %v from %v", b, got, ok, l)
		}
	}
}

func checkFold(t *testing.T, name string, l []impl.Rec) (impl.Boot, bool) {
	t.Helper()
	got, ok := impl.Fold(l)
	if want, wantOk := wantFold(l); ok != wantOk || got != want {
		t.Fatalf("%s: Fold(%v) = %+v, %v, want %+v, %v", name, l, got, ok, want, wantOk)
	}
	return got, ok
}

// manyBoots may all be; they have both ends of each field.
func manyBoots() []impl.Boot {
	var out []impl.Boot
	for bank := range 2 {
		for _, number := range []int{1, 2, 255, 256, 999, 1000} {
			for _, floor := range []int{0, 1, 256, 999, 1000} {
				out = append(out, bootOf(bank, number, floor))
				for tries := range mostTries + 1 {
					for _, old := range []int{1, 2, 300, 1000} {
						out = append(out, trialOf(bank, number, floor, tries, old))
					}
				}
			}
		}
	}
	return out
}

// wrongBoots are each one step off a state that may be.
func wrongBoots() []impl.Boot {
	return []impl.Boot{
		{}, bootOf(-1, 1, 0), bootOf(2, 1, 0), bootOf(0, 0, 0), bootOf(0, -1, 0), bootOf(0, 1001, 0), bootOf(0, 1, -1), bootOf(1, 1, 1001),
		{Number: 1, Tries: 1}, {Number: 1, Old: 1}, {Number: 1, Tries: -1}, {Number: 1, Old: -1}, {Number: 1, Tries: mostTries, Old: 1},
		{Trial: true}, trialOf(0, 1, 0, 0, 0), trialOf(0, 1, 0, 0, -1), trialOf(0, 1, 0, 0, 1001), trialOf(0, 1, 0, 4, 1), trialOf(0, 1, 0, -1, 1),
		trialOf(-1, 1, 0, 0, 1), trialOf(2, 1, 0, 0, 1), trialOf(1, 0, 0, 0, 1), trialOf(1, 1001, 0, 0, 1), trialOf(1, 1, -1, 0, 1), trialOf(1, 1, 1001, 0, 1),
		trialOf(0, 1, 0, math.MaxInt, 1), trialOf(0, 1, 0, math.MinInt, 1), trialOf(math.MaxInt, math.MaxInt, math.MaxInt, math.MaxInt, math.MaxInt),
	}
}

func TestBootOkNamedEdges(t *testing.T) {
	named := []impl.Boot{bootOf(0, 1, 0), bootOf(1, 1, 0), bootOf(0, 1000, 1000), bootOf(1, 1000, 1000),
		trialOf(0, 1, 0, 0, 1), trialOf(1, 1000, 1000, 3, 1000), trialOf(1, 1, 0, 3, 1), trialOf(0, 5, 0, 0, 5)}
	for _, b := range append(named, manyBoots()...) {
		if !impl.BootOk(b) {
			t.Errorf("BootOk(%+v) = false", b)
		}
		checkBoot(t, b)
	}
	for _, b := range wrongBoots() {
		if impl.BootOk(b) {
			t.Errorf("BootOk(%+v) = true", b)
		}
		checkBoot(t, b)
	}
}

// Fields in all ways, the far ones, too: a panic at any of these ends the test.
func TestBootsOfAnyArgument(t *testing.T) {
	near := []int{math.MinInt, -1, 0, 1, 2, 3, 4, 1000, 1001, 1<<32 + 1, math.MaxInt}
	for _, bank := range near {
		for _, number := range near {
			for _, floor := range near {
				for _, tries := range near {
					for _, old := range near {
						checkBoot(t, trialOf(bank, number, floor, tries, old))
						checkBoot(t, impl.Boot{Bank: bank, Number: number, Floor: floor, Tries: tries, Old: old})
					}
				}
			}
		}
	}
}

func TestTextsOfStates(t *testing.T) {
	for _, c := range []struct {
		b    impl.Boot
		text string
	}{
		{bootOf(0, 1, 0), "bank 0 1 0\n"}, {bootOf(1, 1000, 999), "bank 1 1000 999\n"},
		{trialOf(1, 4, 1, 0, 3), "bank 1 4 1\ntrial 0 3\n"}, {trialOf(0, 300, 20, 3, 1000), "bank 0 300 20\ntrial 3 1000\n"},
		{impl.Boot{}, ""}, {trialOf(0, 1, 0, 0, 0), ""}, {impl.Boot{Number: 1, Tries: 1}, ""},
	} {
		if got := impl.BootText(c.b); string(got) != c.text {
			t.Errorf("BootText(%+v) = %q, want %q", c.b, got, c.text)
		}
	}
}

// For each kind what fits and what does not, with what it comes to.
func TestStepWhatFits(t *testing.T) {
	still, trial := bootOf(0, 7, 5), trialOf(1, 8, 5, 2, 7)
	for _, c := range []struct {
		name string
		b    impl.Boot
		r    impl.Rec
		want impl.Boot
		fits bool
	}{
		{"a head", still, recOf(kindHead, 0, 9, 0), still, false},
		{"a head in a trial", trial, recOf(kindHead, 0, 9, 0), trial, false},
		{"a set", still, recOf(kindSet, 1, 9, 9), still, false},
		{"a set in a trial", trial, recOf(kindSet, 0, 9, 9), trial, false},
		{"a set of just that", still, recOf(kindSet, 0, 7, 5), still, false},
		{"a commit of the other bank", still, recOf(kindDo, 1, 9, 0), trialOf(1, 9, 5, 0, 7), true},
		{"a commit of the other bank, back", bootOf(1, 7, 5), recOf(kindDo, 0, 9, 0), trialOf(0, 9, 5, 0, 7), true},
		{"a commit of the same number", still, recOf(kindDo, 1, 7, 0), trialOf(1, 7, 5, 0, 7), true},
		{"a commit of a lower number", still, recOf(kindDo, 1, 1, 0), trialOf(1, 1, 5, 0, 7), true},
		{"a commit of its bank", still, recOf(kindDo, 0, 9, 0), still, false},
		{"a commit of its bank, the second", bootOf(1, 7, 5), recOf(kindDo, 1, 9, 0), bootOf(1, 7, 5), false},
		{"a commit in a trial", trial, recOf(kindDo, 0, 9, 0), trial, false},
		{"a commit of its bank in a trial", trial, recOf(kindDo, 1, 9, 0), trial, false},
		{"a try without a trial", still, recOf(kindTry, 0, 0, 0), still, false},
		{"the first try", trialOf(1, 8, 5, 0, 7), recOf(kindTry, 0, 0, 0), trialOf(1, 8, 5, 1, 7), true},
		{"the last try", trial, recOf(kindTry, 0, 0, 0), trialOf(1, 8, 5, 3, 7), true},
		{"a try too many", trialOf(1, 8, 5, 3, 7), recOf(kindTry, 0, 0, 0), trialOf(1, 8, 5, 3, 7), false},
		{"a confirm without a trial", still, recOf(kindKeep, 0, 0, 9), still, false},
		{"a confirm of a greater floor", trial, recOf(kindKeep, 0, 0, 6), bootOf(1, 8, 6), true},
		{"a confirm of the same floor", trial, recOf(kindKeep, 0, 0, 5), bootOf(1, 8, 5), true},
		{"a confirm of a lower floor", trial, recOf(kindKeep, 0, 0, 4), bootOf(1, 8, 5), true},
		{"a confirm behind all tries", trialOf(1, 8, 5, 3, 7), recOf(kindKeep, 0, 0, 1000), bootOf(1, 8, 1000), true},
		{"a confirm ahead of all tries", trialOf(0, 8, 5, 0, 7), recOf(kindKeep, 0, 0, 0), bootOf(0, 8, 5), true},
		{"a back without a trial", still, recOf(kindBack, 0, 0, 0), still, false},
		{"a back", trial, recOf(kindBack, 0, 0, 0), bootOf(0, 7, 5), true},
		{"a back to the other bank", trialOf(0, 8, 5, 3, 7), recOf(kindBack, 0, 0, 0), bootOf(1, 7, 5), true},
		{"a back ahead of all tries", trialOf(0, 8, 5, 0, 7), recOf(kindBack, 0, 0, 0), bootOf(1, 7, 5), true},
	} {
		if got, ok := impl.Step(c.b, c.r); ok != c.fits || got != c.want {
			t.Errorf("%s: %+v, %v, want %+v, %v", c.name, got, ok, c.want, c.fits)
		}
		checkStep(t, c.b, c.r)
	}
}

func TestStepOfMany(t *testing.T) {
	done, left := map[int]int{}, map[int]int{}
	for _, b := range manyBoots() {
		for _, r := range edgeRecs() {
			if _, ok := checkStep(t, b, r); ok {
				done[r.Kind]++
			} else {
				left[r.Kind]++
			}
		}
	}
	for kind := kindHead; kind <= kindBack; kind++ {
		if left[kind] == 0 || (done[kind] > 0) != (kind >= kindDo) {
			t.Errorf("the kind %d: %d fit, %d do not", kind, done[kind], left[kind])
		}
	}
}

// The zero value stands beside what may not be, whichever of both it is, and whether the other one would fit or not.
func TestStepOfWrongArguments(t *testing.T) {
	boots, records := manyBoots(), edgeRecs()
	for i, b := range wrongBoots() {
		for k := range records {
			checkStep(t, b, records[k])
		}
		for _, r := range wrongRecs() {
			checkStep(t, b, r)
			checkStep(t, boots[i], r)
		}
	}
	for _, b := range boots {
		for _, r := range wrongRecs() {
			if got, ok := checkStep(t, b, r); ok || got != (impl.Boot{}) {
				t.Fatalf("Step(%+v, %+v) = %+v, %v", b, r, got, ok)
			}
		}
	}
}

// drawnRecs are mostly of the kinds that do something.
func drawnRecs(r *rand.Rand, count int) []impl.Rec {
	kinds := []int{kindHead, kindSet, kindDo, kindDo, kindDo, kindTry, kindTry, kindTry, kindKeep, kindBack}
	var out []impl.Rec
	for range count {
		out = append(out, drawnRec(r, kinds[r.IntN(len(kinds))]))
	}
	return out
}

// drawnHistory has that many records, from two on.
func drawnHistory(r *rand.Rand, count int) []impl.Rec {
	return slices.Concat([]impl.Rec{drawnRec(r, kindHead), drawnRec(r, kindSet)}, drawnRecs(r, count-2))
}

func TestStepsLeaveNoLowerFloor(t *testing.T) {
	r := anySource(117)
	boots := manyBoots()
	for range 500 {
		b := boots[r.IntN(len(boots))]
		for _, one := range drawnRecs(r, 60) {
			next, _ := checkStep(t, b, one)
			checkBoot(t, next)
			b = next
		}
	}
}

func TestSummaryOfWhatRecordsComeTo(t *testing.T) {
	r := anySource(118)
	seen := map[impl.Boot]bool{}
	for range 300 {
		for count := 2; count <= allPlaces; count++ {
			l := drawnHistory(r, count)
			b, ok := checkFold(t, "drawn", l)
			if !ok || !impl.BootOk(b) || b.Floor < l[1].Floor {
				t.Fatalf("Fold(%v) = %+v, %v", l, b, ok)
			}
			checkSummaryComesBack(t, b)
			seen[impl.Boot{Trial: b.Trial, Tries: b.Tries}] = true
		}
	}
	if len(seen) != 1+1+mostTries {
		t.Errorf("only these were come to: %v", seen)
	}
}

// What comes behind a Summary does what it would have done behind the records themselves.
func TestSummaryStandsForRecords(t *testing.T) {
	r := anySource(119)
	for range 3000 {
		l := drawnHistory(r, 2+r.IntN(15))
		more := drawnRecs(r, r.IntN(16))
		b, _ := impl.Fold(l)
		short := slices.Concat([]impl.Rec{drawnRec(r, kindHead)}, impl.Summary(b), more)
		want, ok := checkFold(t, "whole", slices.Concat(l, more))
		if got, fine := checkFold(t, "short", short); !ok || !fine || got != want {
			t.Fatalf("%v: %+v, %v, want %+v, %v", short, got, fine, want, ok)
		}
	}
}

func TestSummaryNamed(t *testing.T) {
	try := recOf(kindTry, 0, 0, 0)
	for _, c := range []struct {
		b    impl.Boot
		want []impl.Rec
	}{
		{bootOf(0, 7, 5), []impl.Rec{recOf(kindSet, 0, 7, 5)}},
		{bootOf(1, 1000, 1000), []impl.Rec{recOf(kindSet, 1, 1000, 1000)}},
		{trialOf(1, 8, 5, 0, 7), []impl.Rec{recOf(kindSet, 0, 7, 5), recOf(kindDo, 1, 8, 0)}},
		{trialOf(0, 8, 5, 1, 7), []impl.Rec{recOf(kindSet, 1, 7, 5), recOf(kindDo, 0, 8, 0), try}},
		{trialOf(1, 8, 5, 2, 7), []impl.Rec{recOf(kindSet, 0, 7, 5), recOf(kindDo, 1, 8, 0), try, try}},
		{trialOf(0, 1, 0, 3, 1000), []impl.Rec{recOf(kindSet, 1, 1000, 0), recOf(kindDo, 0, 1, 0), try, try, try}},
		{impl.Boot{}, nil}, {trialOf(0, 1, 0, 4, 1), nil}, {trialOf(0, 1, 0, 1, 0), nil}, {impl.Boot{Number: 1, Tries: 1}, nil},
	} {
		if got := impl.Summary(c.b); !slices.Equal(got, c.want) {
			t.Errorf("Summary(%+v) = %v, want %v", c.b, got, c.want)
		}
	}
}

func TestFoldNamed(t *testing.T) {
	head, set := recOf(kindHead, 0, 1, 0), recOf(kindSet, 0, 3, 1)
	do, try, keep, back := recOf(kindDo, 1, 4, 0), recOf(kindTry, 0, 0, 0), recOf(kindKeep, 0, 0, 2), recOf(kindBack, 0, 0, 0)
	still := bootOf(0, 3, 1)
	for _, c := range []struct {
		name string
		l    []impl.Rec
		want impl.Boot
		ok   bool
	}{
		{"nil", nil, impl.Boot{}, false},
		{"no record", []impl.Rec{}, impl.Boot{}, false},
		{"a head alone", []impl.Rec{head}, impl.Boot{}, false},
		{"a set alone", []impl.Rec{set}, impl.Boot{}, false},
		{"a head and a set", []impl.Rec{head, set}, still, true},
		{"a head of 0", []impl.Rec{recOf(kindHead, 0, 0, 0), set}, still, true},
		{"a set and a head", []impl.Rec{set, head}, impl.Boot{}, false},
		{"two heads", []impl.Rec{head, head, set}, impl.Boot{}, false},
		{"two sets", []impl.Rec{set, set, do}, impl.Boot{}, false},
		{"a commit ahead of the set", []impl.Rec{head, do, set}, impl.Boot{}, false},
		{"a trial", []impl.Rec{head, set, do}, trialOf(1, 4, 1, 0, 3), true},
		{"a trial that is tried", []impl.Rec{head, set, do, try, try}, trialOf(1, 4, 1, 2, 3), true},
		{"a trial that is tried too often", []impl.Rec{head, set, do, try, try, try, try, try}, trialOf(1, 4, 1, 3, 3), true},
		{"a trial that is kept", []impl.Rec{head, set, do, try, keep}, bootOf(1, 4, 2), true},
		{"a trial that is gone", []impl.Rec{head, set, do, try, back}, still, true},
		{"another trial", []impl.Rec{head, set, do, keep, recOf(kindDo, 0, 9, 0), try}, trialOf(0, 9, 2, 1, 4), true},
		{"none fits", []impl.Rec{head, set, head, recOf(kindSet, 1, 9, 9), recOf(kindDo, 0, 9, 0), try, keep, back}, still, true},
		{"some fit", []impl.Rec{head, set, try, do, do, recOf(kindSet, 1, 9, 9), head, try, recOf(kindDo, 0, 9, 0)}, trialOf(1, 4, 1, 1, 3), true},
		{"the second one may not be", []impl.Rec{head, recOf(kindSet, 0, 0, 0)}, impl.Boot{}, false},
		{"the first one may not be", []impl.Rec{recOf(kindHead, 0, 1001, 0), set}, impl.Boot{}, false},
		{"one that would not fit may not be", []impl.Rec{head, set, recOf(kindTry, 0, 0, 1), do}, impl.Boot{}, false},
		{"the last one may not be", []impl.Rec{head, set, do, {}}, impl.Boot{}, false},
	} {
		if got, ok := impl.Fold(c.l); ok != c.ok || got != c.want {
			t.Errorf("%s: %+v, %v, want %+v, %v", c.name, got, ok, c.want, c.ok)
		}
		checkFold(t, c.name, c.l)
	}
}

func TestFoldLengths(t *testing.T) {
	r := anySource(120)
	whole := drawnHistory(r, 40)
	for count := range len(whole) + 1 {
		_, ok := checkFold(t, fmt.Sprint(count), whole[:count])
		if ok != within(count, 2, allPlaces) {
			t.Errorf("%d records: %v", count, ok)
		}
	}
	checkFold(t, "1000", drawnHistory(r, 1000))
	// The thirty-second one still counts.
	head, set, do := recOf(kindHead, 0, 1, 0), recOf(kindSet, 0, 3, 1), recOf(kindDo, 1, 4, 0)
	full := slices.Concat([]impl.Rec{head, set}, slices.Repeat([]impl.Rec{recOf(kindTry, 0, 0, 0)}, allPlaces-3), []impl.Rec{do})
	if got, ok := impl.Fold(full); !ok || got != trialOf(1, 4, 1, 0, 3) {
		t.Errorf("a commit in the last place: %+v, %v", got, ok)
	}
}

// The first two are of their kind, whatever stands behind them.
func TestFoldBegins(t *testing.T) {
	r := anySource(121)
	for first := kindHead; first <= kindBack; first++ {
		for second := kindHead; second <= kindBack; second++ {
			for count := range allPlaces - 1 {
				l := slices.Concat([]impl.Rec{drawnRec(r, first), drawnRec(r, second)}, drawnRecs(r, count))
				_, ok := checkFold(t, "begins", l)
				if ok != (first == kindHead && second == kindSet) {
					t.Fatalf("Fold(%v): %v", l, ok)
				}
			}
		}
	}
}

// One that may not be makes it false, wherever it stands.
func TestFoldOneMayNotBe(t *testing.T) {
	r := anySource(122)
	for _, wrong := range wrongRecs() {
		for _, count := range []int{2, 3, 5, 31, allPlaces} {
			l := drawnHistory(r, count)
			for place := range l {
				spoilt := slices.Clone(l)
				spoilt[place] = wrong
				if got, ok := checkFold(t, "spoilt", spoilt); ok || got != (impl.Boot{}) {
					t.Fatalf("%+v in the place %d: %+v, %v", wrong, place, got, ok)
				}
			}
		}
	}
}

// Records, put into a half and told again, come to the same state.
func TestFoldOfScan(t *testing.T) {
	r := anySource(123)
	for range 500 {
		l := drawnHistory(r, 2+r.IntN(allPlaces-1))
		half := blankBytes(halfSize)
		for place, one := range l {
			copy(half[recSize*place:], impl.RecPut(one))
		}
		told, used := impl.Scan(half)
		got, ok := impl.Fold(told)
		if want, _ := wantFold(l); used != len(l) || !ok || got != want {
			t.Fatalf("%v came to %+v, %v", l, got, ok)
		}
	}
}

type stepArgs struct {
	Boot impl.Boot
	Rec  impl.Rec
}

type bootAnswer struct {
	Boot impl.Boot
	Ok   bool
}

func callFold(l []impl.Rec) bootAnswer {
	got, ok := impl.Fold(l)
	return bootAnswer{got, ok}
}

func TestStateMemory(t *testing.T) {
	for _, b := range append(wrongBoots(), bootOf(0, 7, 5), trialOf(1, 8, 5, 0, 7), trialOf(0, 8, 5, 3, 7)) {
		checkCall(t, "BootOk", b, impl.BootOk)
		checkCall(t, "Summary", b, impl.Summary)
		checkCall(t, "BootText", b, impl.BootText)
		for _, r := range []impl.Rec{{}, recOf(kindDo, 1, 9, 0), recOf(kindTry, 0, 0, 0)} {
			checkCall(t, "Step", stepArgs{b, r}, func(a stepArgs) bootAnswer {
				got, ok := impl.Step(a.Boot, a.Rec)
				return bootAnswer{got, ok}
			})
		}
	}
	l := drawnHistory(anySource(124), allPlaces+1)
	for count := range len(l) + 1 {
		checkCall(t, "Fold", l[:count], callFold)
	}
	checkCall(t, "Fold", nil, callFold)
}

// What lies behind the length is not read: with it these would come to a state.
func TestFoldBehindTheLength(t *testing.T) {
	l := []impl.Rec{recOf(kindHead, 0, 1, 0), recOf(kindSet, 0, 3, 1), recOf(kindDo, 1, 4, 0), {}}
	for count, want := range []bootAnswer{{}, {}, {bootOf(0, 3, 1), true}, {trialOf(1, 4, 1, 0, 3), true}, {}} {
		if got := callFold(l[:count]); got != want {
			t.Errorf("%d records: %+v, want %+v", count, got, want)
		}
	}
}

// What was answered once may be spoilt: what is answered next is as it was.
func TestStatesAreNotKept(t *testing.T) {
	for range 3 {
		for _, b := range manyBoots() {
			checkBoot(t, b)
			summary := impl.Summary(b)
			clear(summary[:cap(summary)])
			spoil(impl.BootText(b))
		}
		for _, r := range edgeRecs() {
			checkStep(t, bootOf(0, 7, 5), r)
			checkStep(t, trialOf(0, 8, 5, 2, 7), r)
		}
	}
}
