package tests

import (
	"slices"
	"testing"
)

const spareItems = 24

type item interface{ byte | int }

// roomy keeps a whole array, so that a test sees what is written behind the list that it lends.
type roomy[T item] struct {
	whole []T
	was   []T
	count int
}

func newRoomy[T item](l []T) *roomy[T] {
	whole := slices.Concat(l, slices.Repeat([]T{0xa5}, spareItems))
	return &roomy[T]{whole: whole, was: slices.Clone(whole), count: len(l)}
}

func (r *roomy[T]) list() []T { return r.whole[:r.count] }

func (r *roomy[T]) untouched() bool { return slices.Equal(r.whole, r.was) }

func (r *roomy[T]) spoil() { spoil(r.whole) }

func spoil[T item](l []T) {
	whole := l[:cap(l)]
	for i := range whole {
		whole[i] = ^whole[i]
	}
}

// lender is a roomy of either kind.
type lender interface {
	untouched() bool
	spoil()
}

// answer holds all lists of what one call answers.
type answer struct {
	bytes [][]byte
	ints  [][]int
}

func (a answer) clone() answer {
	return answer{bytes: cloneLists(a.bytes), ints: cloneLists(a.ints)}
}

func (a answer) equal(b answer) bool {
	return slices.EqualFunc(a.bytes, b.bytes, slices.Equal) && slices.EqualFunc(a.ints, b.ints, slices.Equal)
}

func cloneLists[T item](lists [][]T) [][]T {
	var out [][]T
	for _, l := range lists {
		out = append(out, slices.Clone(l))
	}
	return out
}

// checkMemory calls f on roomy copies of args: they must stay as they are, and share nothing with the answer.
func checkMemory(t *testing.T, name string, f func(args [][]byte) []byte, args ...[]byte) {
	t.Helper()
	var lent []lender
	var lists [][]byte
	for _, a := range args {
		r := newRoomy(a)
		lent = append(lent, r)
		lists = append(lists, r.list())
	}
	checkAnswer(t, name, lent, func() answer { return answer{bytes: [][]byte{f(lists)}} })
}

// checkAnswer calls f, which works on what is lent: that must stay as it is, and share nothing with the answer,
// nor may the answer's lists among themselves, nor with another answer's.
func checkAnswer(t *testing.T, name string, lent []lender, f func() answer) {
	t.Helper()
	first, second := f(), f()
	checkUntouched(t, name+": the call", lent)
	told := first.clone()
	if !second.equal(told) {
		t.Errorf("%s: %x at first, then %x", name, told, second)
	}
	checkParted(t, name, second, told, second.bytes, told.bytes)
	checkParted(t, name, second, told, second.ints, told.ints)
	spoilAnswer(second)
	checkUntouched(t, name+": the answer shares memory; spoiling it", lent)
	checkSame(t, name+": two answers share memory", first, told)
	for _, r := range lent {
		r.spoil()
	}
	checkSame(t, name+": the answer hangs on the argument's memory", first, told)
}

// checkParted spoils list by list of an answer, and back: no other list of it may change with it.
func checkParted[T item](t *testing.T, name string, got, want answer, lists, wantLists [][]T) {
	t.Helper()
	for i := range lists {
		spoil(lists[i])
		spoil(wantLists[i])
		checkSame(t, name+": two lists of an answer share memory", got, want)
		spoil(lists[i])
		spoil(wantLists[i])
	}
}

func spoilAnswer(a answer) {
	for _, l := range a.bytes {
		spoil(l)
	}
	for _, l := range a.ints {
		spoil(l)
	}
}

func checkSame(t *testing.T, what string, got, want answer) {
	t.Helper()
	if !got.equal(want) {
		t.Errorf("%s: %x, was %x", what, got, want)
	}
}

func checkUntouched(t *testing.T, what string, lent []lender) {
	t.Helper()
	for i, r := range lent {
		if !r.untouched() {
			t.Errorf("%s changed argument %d: %x", what, i, r)
		}
	}
}
