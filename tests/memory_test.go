package tests

import (
	"bytes"
	"testing"
)

const spareBytes = 24

// roomy keeps a whole array, so that a test sees what is written behind the list that it lends.
type roomy struct {
	whole []byte
	was   []byte
	count int
}

func newRoomy(b []byte) *roomy {
	whole := append(bytes.Clone(b), bytes.Repeat([]byte{0xa5}, spareBytes)...)
	return &roomy{whole: whole, was: bytes.Clone(whole), count: len(b)}
}

func (r *roomy) list() []byte { return r.whole[:r.count] }

func (r *roomy) untouched() bool { return bytes.Equal(r.whole, r.was) }

func (r *roomy) spoil() {
	for i := range r.whole {
		r.whole[i] ^= 0xff
	}
}

func spoil(b []byte) {
	whole := b[:cap(b)]
	for i := range whole {
		whole[i] ^= 0xff
	}
}

// checkMemory calls f on roomy copies of args: they must stay as they are, and share nothing with the answer.
func checkMemory(t *testing.T, name string, f func(args [][]byte) []byte, args ...[]byte) {
	t.Helper()
	lent := make([]*roomy, len(args))
	lists := make([][]byte, len(args))
	for i, a := range args {
		lent[i] = newRoomy(a)
		lists[i] = lent[i].list()
	}
	first, second := f(lists), f(lists)
	checkUntouched(t, name+": the call", lent)
	told := bytes.Clone(first)
	if !bytes.Equal(second, told) {
		t.Errorf("%s: %x at first, then %x", name, told, second)
	}
	spoil(second)
	checkUntouched(t, name+": the answer shares memory; spoiling it", lent)
	if !bytes.Equal(first, told) {
		t.Errorf("%s: two answers share memory", name)
	}
	for _, r := range lent {
		r.spoil()
	}
	if !bytes.Equal(first, told) {
		t.Errorf("%s: the answer hangs on the argument's memory", name)
	}
}

func checkUntouched(t *testing.T, what string, lent []*roomy) {
	t.Helper()
	for i, r := range lent {
		if !r.untouched() {
			t.Errorf("%s changed argument %d: %x, was %x", what, i, r.whole, r.was)
		}
	}
}
