package tests

import (
	"bytes"
	"encoding/binary"
	"fmt"
	"math"
	"math/rand/v2"
	"slices"
	"testing"

	"loop.example/g00412/impl"
)

// The limits as the chapter tells them, in numbers of their own.
const (
	halfSize  = 256
	recSize   = 8
	recBits   = 64
	allPlaces = 32
	mostTries = 3
	kindHead  = 1
	kindSet   = 2
	kindDo    = 3
	kindTry   = 4
	kindKeep  = 5
	kindBack  = 6
)

// recVersions have none, one, two or three times 256 in them, and the least and the greatest of each.
var recVersions = []int{0, 1, 2, 127, 128, 255, 256, 257, 511, 512, 513, 767, 768, 769, 999, 1000}

// farInts are beside every limit of this chapter, or come to a small number where they are cut off.
var farInts = []int{math.MinInt, math.MinInt + 1, -1 << 32, -1000, -256, -2, -1, 0, 1, 2, 3, 4, 5, 6, 7, 255, 256, 257,
	999, 1000, 1001, 1023, 1024, 4095, 4096, 1 << 16, 1<<32 + 1, 1<<63 - 256, math.MaxInt}

func recOf(kind, bank, number, floor int) impl.Rec {
	return impl.Rec{Kind: kind, Bank: bank, Number: number, Floor: floor}
}

// recRule: each field of a record of that kind is between both.
type recRule struct {
	word        string
	least, most impl.Rec
}

func recRules() []recRule {
	return []recRule{
		{"head", recOf(kindHead, 0, 0, 0), recOf(kindHead, 0, 1000, 0)},
		{"set", recOf(kindSet, 0, 1, 0), recOf(kindSet, 1, 1000, 1000)},
		{"commit", recOf(kindDo, 0, 1, 0), recOf(kindDo, 1, 1000, 0)},
		{"try", recOf(kindTry, 0, 0, 0), recOf(kindTry, 0, 0, 0)},
		{"confirm", recOf(kindKeep, 0, 0, 0), recOf(kindKeep, 0, 0, 1000)},
		{"back", recOf(kindBack, 0, 0, 0), recOf(kindBack, 0, 0, 0)},
	}
}

func (c recRule) holds(r impl.Rec) bool {
	return r.Kind == c.least.Kind && within(r.Bank, c.least.Bank, c.most.Bank) &&
		within(r.Number, c.least.Number, c.most.Number) && within(r.Floor, c.least.Floor, c.most.Floor)
}

func wantRecOk(r impl.Rec) bool {
	return slices.ContainsFunc(recRules(), func(c recRule) bool { return c.holds(r) })
}

// wantRecBytes wants a record that may be.
func wantRecBytes(r impl.Rec) []byte {
	word := uint32(r.Kind<<1 | r.Bank | r.Number&255<<8 | r.Floor&255<<16 | r.Number>>8<<24 | r.Floor>>8<<28)
	return rowOf(word)
}

// rowOf has the word and its opposite: where the word tells a record, they are its bytes.
func rowOf(word uint32) []byte {
	return binary.LittleEndian.AppendUint32(binary.LittleEndian.AppendUint32(nil, word), math.MaxUint32-word)
}

func wantRecGet(b []byte) (impl.Rec, bool) {
	if len(b) != recSize {
		return impl.Rec{}, false
	}
	word := binary.LittleEndian.Uint32(b)
	r := recOf(int(word>>1&127), int(word&1), int(word>>8&255|word>>24&15<<8), int(word>>16&255|word>>28<<8))
	if !bytes.Equal(rowOf(word), b) || !wantRecOk(r) {
		return impl.Rec{}, false
	}
	return r, true
}

func wantRecText(r impl.Rec) string {
	if !wantRecOk(r) {
		return ""
	}
	c := recRules()[r.Kind-1]
	text := c.word
	for _, field := range [][2]int{{c.most.Bank, r.Bank}, {c.most.Number, r.Number}, {c.most.Floor, r.Floor}} {
		if field[0] > 0 {
			text += fmt.Sprint(" ", field[1])
		}
	}
	return text + "\n"
}

func blankBytes(count int) []byte { return bytes.Repeat([]byte{255}, count) }

func wantScan(half []byte) ([]impl.Rec, int) {
	if len(half) != halfSize {
		return nil, 0
	}
	var records []impl.Rec
	used := 0
	for i := range allPlaces {
		place := half[recSize*i : recSize*(i+1)]
		if r, ok := wantRecGet(place); ok {
			records = append(records, r)
		}
		if !bytes.Equal(place, blankBytes(recSize)) {
			used = i + 1
		}
	}
	return records, used
}

// checkRecGet: bytes are read as a record just if they are its very bytes.
func checkRecGet(t *testing.T, b []byte) bool {
	t.Helper()
	got, ok := impl.RecGet(b)
	want, wantOk := wantRecGet(b)
	if ok != wantOk || got != want {
		t.Fatalf("RecGet(%x) = %+v, %v, want %+v, %v", b, got, ok, want, wantOk)
	}
	if again := impl.RecPut(got); ok && !bytes.Equal(again, b) || !ok && len(again) > 0 {
		t.Fatalf("RecGet(%x) = %+v, %v: its bytes are %x", b, got, ok, again)
	}
	return ok
}

// checkRec asks all that hangs on a record alone.
func checkRec(t *testing.T, r impl.Rec) {
	t.Helper()
	want := wantRecOk(r)
	if got := impl.RecOk(r); got != want {
		t.Fatalf("RecOk(%+v) = %v", r, got)
	}
	if got := impl.RecText(r); string(got) != wantRecText(r) {
		t.Fatalf("RecText(%+v) = %q", r, got)
	}
	b := impl.RecPut(r)
	if !want {
		if len(b) > 0 {
			t.Fatalf("RecPut(%+v) = %x", r, b)
		}
		return
	}
	checkRecComesBack(t, r)
}

func checkRecComesBack(t *testing.T, r impl.Rec) {
	t.Helper()
	b := impl.RecPut(r)
	if !impl.RecOk(r) || !bytes.Equal(b, wantRecBytes(r)) {
		t.Fatalf("RecPut(%+v) = %x, want %x", r, b, wantRecBytes(r))
	}
	if back, ok := impl.RecGet(b); !ok || back != r {
		t.Fatalf("%+v came back as %+v, %v", r, back, ok)
	}
}

func checkScan(t *testing.T, name string, half []byte) {
	t.Helper()
	got, used := impl.Scan(half)
	want, wantUsed := wantScan(half)
	if used != wantUsed || !slices.Equal(got, want) {
		t.Fatalf("%s: Scan(%x) = %v, %d, want %v, %d", name, half, got, used, want, wantUsed)
	}
}

// edgeRecs have every kind, with each field at its ends and at all recVersions that the kind takes.
func edgeRecs() []impl.Rec {
	var out []impl.Rec
	for _, c := range recRules() {
		for _, bank := range []int{0, 1} {
			for _, number := range recVersions {
				for _, floor := range recVersions {
					if r := recOf(c.least.Kind, bank, number, floor); c.holds(r) {
						out = append(out, r)
					}
				}
			}
		}
	}
	return out
}

func drawnFrom(r *rand.Rand, low, high int) int {
	if r.IntN(3) == 0 {
		n := recVersions[r.IntN(len(recVersions))]
		return min(max(n, low), high)
	}
	return low + r.IntN(high-low+1)
}

func drawnRec(r *rand.Rand, kind int) impl.Rec {
	c := recRules()[kind-1]
	return recOf(kind, drawnFrom(r, c.least.Bank, c.most.Bank), drawnFrom(r, c.least.Number, c.most.Number), drawnFrom(r, c.least.Floor, c.most.Floor))
}

// wrongRecs are each one step off a record that may be.
func wrongRecs() []impl.Rec {
	var out []impl.Rec
	for _, c := range recRules() {
		for _, r := range []impl.Rec{
			recOf(c.most.Kind, c.least.Bank-1, c.least.Number, c.least.Floor), recOf(c.most.Kind, c.most.Bank+1, c.most.Number, c.most.Floor),
			recOf(c.most.Kind, c.least.Bank, c.least.Number-1, c.least.Floor), recOf(c.most.Kind, c.most.Bank, c.most.Number+1, c.most.Floor),
			recOf(c.most.Kind, c.least.Bank, c.least.Number, c.least.Floor-1), recOf(c.most.Kind, c.most.Bank, c.most.Number, c.most.Floor+1),
		} {
			out = append(out, r)
		}
	}
	for _, kind := range []int{math.MinInt, -1, 0, 7, 8, 255, 257, 1<<62 + 1, math.MaxInt} {
		out = append(out, recOf(kind, 0, 0, 0), recOf(kind, 1, 1, 1))
	}
	return out
}

func TestLogConstants(t *testing.T) {
	if impl.HalfBytes != halfSize || impl.RecBytes != recSize || impl.MaxTries != mostTries {
		t.Error("a limit is another one")
	}
	for i, kind := range []int{impl.RkHead, impl.RkSet, impl.RkCommit, impl.RkTry, impl.RkConfirm, impl.RkBack} {
		if kind != i+1 {
			t.Errorf("the kind %d is %d", i+1, kind)
		}
	}
}

// Every record that may be, one by one.
func TestRecordsComeBack(t *testing.T) {
	count := 0
	for _, c := range recRules() {
		for bank := c.least.Bank; bank <= c.most.Bank; bank++ {
			for number := c.least.Number; number <= c.most.Number; number++ {
				for floor := c.least.Floor; floor <= c.most.Floor; floor++ {
					checkRecComesBack(t, recOf(c.least.Kind, bank, number, floor))
					count++
				}
			}
		}
	}
	if want := 1001 + 2*1000*1001 + 2*1000 + 1 + 1001 + 1; count != want {
		t.Errorf("%d records, want %d", count, want)
	}
}

func TestRecordBytesOfExamples(t *testing.T) {
	for _, c := range []struct {
		r    impl.Rec
		b    []byte
		text string
	}{
		{recOf(kindHead, 0, 0, 0), []byte{2, 0, 0, 0, 253, 255, 255, 255}, "head 0\n"},
		{recOf(kindHead, 0, 1000, 0), []byte{2, 232, 0, 3, 253, 23, 255, 252}, "head 1000\n"},
		{recOf(kindSet, 0, 1, 0), []byte{4, 1, 0, 0, 251, 254, 255, 255}, "set 0 1 0\n"},
		{recOf(kindSet, 1, 1000, 1000), []byte{5, 232, 232, 51, 250, 23, 23, 204}, "set 1 1000 1000\n"},
		{recOf(kindSet, 1, 256, 767), []byte{5, 0, 255, 33, 250, 255, 0, 222}, "set 1 256 767\n"},
		{recOf(kindSet, 0, 767, 256), []byte{4, 255, 0, 18, 251, 0, 255, 237}, "set 0 767 256\n"},
		{recOf(kindDo, 0, 1, 0), []byte{6, 1, 0, 0, 249, 254, 255, 255}, "commit 0 1\n"},
		{recOf(kindDo, 1, 512, 0), []byte{7, 0, 0, 2, 248, 255, 255, 253}, "commit 1 512\n"},
		{recOf(kindTry, 0, 0, 0), []byte{8, 0, 0, 0, 247, 255, 255, 255}, "try\n"},
		{recOf(kindKeep, 0, 0, 0), []byte{10, 0, 0, 0, 245, 255, 255, 255}, "confirm 0\n"},
		{recOf(kindKeep, 0, 0, 1000), []byte{10, 0, 232, 48, 245, 255, 23, 207}, "confirm 1000\n"},
		{recOf(kindBack, 0, 0, 0), []byte{12, 0, 0, 0, 243, 255, 255, 255}, "back\n"},
	} {
		if got := impl.RecPut(c.r); !bytes.Equal(got, c.b) {
			t.Errorf("RecPut(%+v) = %v, want %v", c.r, got, c.b)
		}
		if got, ok := impl.RecGet(c.b); !ok || got != c.r {
			t.Errorf("RecGet(%v) = %+v, %v", c.b, got, ok)
		}
		if got := impl.RecText(c.r); string(got) != c.text {
			t.Errorf("RecText(%+v) = %q, want %q", c.r, got, c.text)
		}
		checkRec(t, c.r)
	}
}

// Each field at its limit, and one past it, told without the rules.
func TestRecOkNamedEdges(t *testing.T) {
	for _, c := range []struct {
		r  impl.Rec
		ok bool
	}{
		{impl.Rec{}, false}, {recOf(-1, 0, 0, 0), false}, {recOf(7, 0, 0, 0), false}, {recOf(0, 0, 1, 0), false}, {recOf(7, 1, 1, 1), false},
		{recOf(1, 0, 0, 0), true}, {recOf(1, 0, 1000, 0), true}, {recOf(1, 0, 1001, 0), false}, {recOf(1, 0, -1, 0), false},
		{recOf(1, 1, 5, 0), false}, {recOf(1, -1, 5, 0), false}, {recOf(1, 0, 5, 1), false}, {recOf(1, 0, 5, -1), false},
		{recOf(2, 0, 1, 0), true}, {recOf(2, 1, 1000, 1000), true}, {recOf(2, 0, 0, 0), false}, {recOf(2, 0, 1001, 0), false},
		{recOf(2, -1, 1, 0), false}, {recOf(2, 2, 1, 0), false}, {recOf(2, 0, 1, -1), false}, {recOf(2, 0, 1, 1001), false},
		{recOf(3, 0, 1, 0), true}, {recOf(3, 1, 1000, 0), true}, {recOf(3, 0, 0, 0), false}, {recOf(3, 1, 1001, 0), false},
		{recOf(3, -1, 1, 0), false}, {recOf(3, 2, 1, 0), false}, {recOf(3, 0, 1, 1), false}, {recOf(3, 0, 1, -1), false},
		{recOf(4, 0, 0, 0), true}, {recOf(4, 1, 0, 0), false}, {recOf(4, 0, 1, 0), false}, {recOf(4, 0, 0, 1), false}, {recOf(4, 0, 0, -1), false},
		{recOf(5, 0, 0, 0), true}, {recOf(5, 0, 0, 1000), true}, {recOf(5, 0, 0, 1001), false}, {recOf(5, 0, 0, -1), false},
		{recOf(5, 1, 0, 5), false}, {recOf(5, 0, 1, 5), false},
		{recOf(6, 0, 0, 0), true}, {recOf(6, 1, 0, 0), false}, {recOf(6, 0, 1, 0), false}, {recOf(6, 0, 0, 1), false}, {recOf(6, -1, 0, 0), false},
	} {
		if got := impl.RecOk(c.r); got != c.ok || wantRecOk(c.r) != c.ok {
			t.Errorf("RecOk(%+v) = %v, want %v", c.r, got, c.ok)
		}
		checkRec(t, c.r)
	}
	for _, r := range wrongRecs() {
		if wantRecOk(r) {
			t.Fatalf("the tests do not agree on %+v", r)
		}
		checkRec(t, r)
	}
}

// Fields in all ways, the far ones, too: a panic at any of these ends the test.
func TestRecordsOfAnyArgument(t *testing.T) {
	for _, kind := range append([]int{1 << 62, 1<<62 + 1, 1<<62 + 6, 1<<63 - 2}, farInts...) {
		for _, bank := range []int{math.MinInt, -1, 0, 1, 2, 3, 256, math.MaxInt} {
			for _, number := range farInts {
				for _, floor := range farInts {
					checkRec(t, recOf(kind, bank, number, floor))
				}
			}
		}
	}
}

func TestRecGetLengths(t *testing.T) {
	for _, r := range edgeRecs() {
		b := wantRecBytes(r)
		whole := slices.Concat(b, b, b)
		for count := range len(whole) {
			if ok := checkRecGet(t, whole[:count]); ok != (count == recSize) {
				t.Fatalf("%d bytes of %+v are read: %v", count, r, ok)
			}
		}
		for count := range recSize {
			if checkRecGet(t, b[recSize-count:]) {
				t.Fatalf("the last %d bytes of %+v are read", count, r)
			}
		}
		for _, more := range []byte{0, 1, 255} {
			if checkRecGet(t, append(slices.Clone(b), more)) || checkRecGet(t, slices.Concat([]byte{more}, b)) {
				t.Fatalf("%+v is read with one byte more", r)
			}
		}
	}
	if checkRecGet(t, nil) || checkRecGet(t, blankBytes(recSize)) || checkRecGet(t, make([]byte, recSize)) {
		t.Error("nothing, blank bytes or noughts are a record")
	}
}

// One bit turned is never a record; two may be another one, if they are the same bit of both halves.
func TestRecGetBitsTurned(t *testing.T) {
	others := 0
	for _, r := range edgeRecs() {
		b := wantRecBytes(r)
		for bit := range recBits {
			one := turned(b, bit)
			if checkRecGet(t, one) {
				t.Fatalf("%+v is read with its bit %d turned", r, bit)
			}
			for second := range bit {
				if checkRecGet(t, turned(one, second)) {
					others++
					if bit != second+recBits/2 {
						t.Fatalf("%+v is read with its bits %d and %d turned", r, second, bit)
					}
				}
			}
		}
	}
	if others == 0 {
		t.Error("no record is two bits off another one")
	}
}

// The second half is the first one, its bits turned round, in the same order: nothing else will do.
func TestRecGetSecondHalf(t *testing.T) {
	for _, r := range edgeRecs() {
		b := wantRecBytes(r)
		first, second := b[:4], b[4:]
		reversed := slices.Clone(second)
		slices.Reverse(reversed)
		for _, other := range [][]byte{first, reversed, {0, 0, 0, 0}, {255, 255, 255, 255}, {second[0] + 1, second[1], second[2], second[3]}} {
			if !bytes.Equal(other, second) && checkRecGet(t, slices.Concat(first, other)) {
				t.Fatalf("%+v is read with %x for %x", r, other, second)
			}
		}
		if checkRecGet(t, slices.Concat(second, first)) {
			t.Fatalf("%+v is read with its halves exchanged", r)
		}
	}
}

// Every first byte and every last one of a first half, with a second half that goes with it.
func TestRecGetFirstHalf(t *testing.T) {
	edges := []uint32{0, 1, 128, 231, 232, 233, 255}
	read, refused := 0, 0
	for mark := range uint32(256) {
		for high := range uint32(256) {
			for _, number := range edges {
				for _, floor := range edges {
					if checkRecGet(t, rowOf(mark|number<<8|floor<<16|high<<24)) {
						read++
					} else {
						refused++
					}
				}
			}
		}
	}
	if read == 0 || refused == 0 {
		t.Errorf("%d are read, %d refused", read, refused)
	}
}

func TestRecGetNamedRows(t *testing.T) {
	for _, c := range []struct {
		name string
		word uint32
	}{
		{"a kind of 0", 0}, {"a kind of 0 with a bank", 1}, {"a kind of 7", 14}, {"a kind of 7 with a bank", 15}, {"a kind of 127", 255},
		{"a head with a bank", 3}, {"a head with a Floor", 2 | 1<<16}, {"a head with a high Floor", 2 | 1<<28}, {"a head above", 2 | 233<<8 | 3<<24}, {"a head far above", 2 | 4<<24},
		{"a set of 0", 4}, {"a set above", 4 | 233<<8 | 3<<24}, {"a set with a Floor above", 4 | 1<<8 | 233<<16 | 3<<28}, {"a set with a Floor far above", 4 | 1<<8 | 4<<28},
		{"a commit of 0", 7}, {"a commit above", 6 | 233<<8 | 3<<24}, {"a commit with a Floor", 6 | 1<<8 | 1<<16}, {"a commit with a high Floor", 6 | 1<<8 | 1<<28},
		{"a try with a bank", 9}, {"a try with a Number", 8 | 1<<8}, {"a try with a high Number", 8 | 1<<24}, {"a try with a Floor", 8 | 1<<16},
		{"a confirm with a bank", 11}, {"a confirm with a Number", 10 | 1<<8}, {"a confirm above", 10 | 233<<16 | 3<<28}, {"a confirm far above", 10 | 8<<28},
		{"a back with a bank", 13}, {"a back with a Number", 12 | 1<<8}, {"a back with a Floor", 12 | 1<<16}, {"a back with a high Floor", 12 | 1<<28},
	} {
		if checkRecGet(t, rowOf(c.word)) {
			t.Errorf("%s is read", c.name)
		}
	}
}

func TestRecGetAnyBytes(t *testing.T) {
	r := anySource(110)
	read := 0
	for range 200000 {
		checkRecGet(t, drawnBytes(r, recSize))
		if checkRecGet(t, rowOf(r.Uint32()&0x3333ff0f)) {
			read++
		}
	}
	if read < 1000 {
		t.Errorf("only %d are read", read)
	}
}

// halfWith has the rows at their places, and blank bytes elsewhere.
func halfWith(rows map[int][]byte) []byte {
	half := blankBytes(halfSize)
	for place, row := range rows {
		copy(half[recSize*place:], row)
	}
	return half
}

func TestScanNamedHalves(t *testing.T) {
	try, keep := recOf(kindTry, 0, 0, 0), recOf(kindKeep, 0, 0, 1000)
	row, last := wantRecBytes(try), wantRecBytes(keep)
	for _, c := range []struct {
		name string
		half []byte
		want []impl.Rec
		used int
	}{
		{"all blank", halfWith(nil), nil, 0},
		{"all noughts", make([]byte, halfSize), nil, 32},
		{"the first place", halfWith(map[int][]byte{0: row}), []impl.Rec{try}, 1},
		{"the second place", halfWith(map[int][]byte{1: row}), []impl.Rec{try}, 2},
		{"the last place", halfWith(map[int][]byte{31: row}), []impl.Rec{try}, 32},
		{"no record in the last place", halfWith(map[int][]byte{31: turned(row, 9)}), nil, 32},
		{"a bit of the last place", halfWith(map[int][]byte{31: turned(blankBytes(recSize), 63)}), nil, 32},
		{"the first bit of the last place", halfWith(map[int][]byte{31: turned(blankBytes(recSize), 0)}), nil, 32},
		{"a bit of the last place but one", halfWith(map[int][]byte{30: turned(blankBytes(recSize), 63)}), nil, 31},
		{"a bit of the first place", halfWith(map[int][]byte{0: turned(blankBytes(recSize), 63)}), nil, 1},
		{"blank places between", halfWith(map[int][]byte{0: row, 5: last}), []impl.Rec{try, keep}, 6},
		{"none between, none behind", halfWith(map[int][]byte{0: row, 1: make([]byte, recSize), 2: last, 3: turned(row, 0)}), []impl.Rec{try, keep}, 4},
		{"blank, none, blank, a record", halfWith(map[int][]byte{1: turned(row, 3), 3: last}), []impl.Rec{keep}, 4},
		{"the same one twice", halfWith(map[int][]byte{0: last, 1: row, 2: last}), []impl.Rec{keep, try, keep}, 3},
		{"full", bytes.Repeat(row, allPlaces), slices.Repeat([]impl.Rec{try}, allPlaces), 32},
		{"a record that is not in its place", halfWith(map[int][]byte{2: append(blankBytes(4), row...)}), nil, 4},
	} {
		got, used := impl.Scan(c.half)
		if used != c.used || !slices.Equal(got, c.want) {
			t.Errorf("%s: %v, %d, want %v, %d", c.name, got, used, c.want, c.used)
		}
		checkScan(t, c.name, c.half)
	}
}

func TestScanLengths(t *testing.T) {
	full := bytes.Repeat(wantRecBytes(recOf(kindHead, 0, 1, 0)), 2*allPlaces+1)
	for count := range len(full) + 1 {
		got, used := impl.Scan(full[:count])
		if count != halfSize && (used != 0 || len(got) > 0) {
			t.Fatalf("%d bytes: %v, %d", count, got, used)
		}
		checkScan(t, fmt.Sprint(count), full[:count])
	}
	checkScan(t, "nil", nil)
}

// One bit, wherever it is, makes its place the last one that is used.
func TestScanOneBit(t *testing.T) {
	for bit := range 8 * halfSize {
		half := turned(blankBytes(halfSize), bit)
		if got, used := impl.Scan(half); len(got) > 0 || used != bit/recBits+1 {
			t.Fatalf("the bit %d: %v, %d", bit, got, used)
		}
	}
}

func drawnRow(r *rand.Rand) []byte {
	row := wantRecBytes(drawnRec(r, kindHead+r.IntN(kindBack)))
	switch r.IntN(6) {
	case 0:
		return blankBytes(recSize)
	case 1:
		return drawnBytes(r, recSize)
	case 2:
		return turned(row, r.IntN(recBits))
	case 3:
		return turned(blankBytes(recSize), r.IntN(recBits))
	}
	return row
}

func TestScanOfMany(t *testing.T) {
	r := anySource(111)
	for range 3000 {
		half := blankBytes(halfSize)
		for place := range r.IntN(allPlaces + 1) {
			copy(half[recSize*place:], drawnRow(r))
		}
		checkScan(t, "drawn", half)
	}
	var whole []impl.Rec
	for range allPlaces {
		whole = append(whole, drawnRec(r, kindHead+r.IntN(kindBack)))
	}
	for count := range allPlaces + 1 {
		half := blankBytes(halfSize)
		for place, one := range whole[:count] {
			copy(half[recSize*place:], impl.RecPut(one))
		}
		if got, used := impl.Scan(half); used != count || !slices.Equal(got, whole[:count]) {
			t.Fatalf("%d records: %v, %d", count, got, used)
		}
	}
}

type recAnswer struct {
	Rec impl.Rec
	Ok  bool
}

type scanAnswer struct {
	Records []impl.Rec
	Used    int
}

func callScan(half []byte) scanAnswer {
	got, used := impl.Scan(half)
	return scanAnswer{got, used}
}

func TestRecordMemory(t *testing.T) {
	for _, one := range slices.Concat(edgeRecs()[:40], wrongRecs()) {
		checkCall(t, "RecOk", one, impl.RecOk)
		checkCall(t, "RecPut", one, impl.RecPut)
		checkCall(t, "RecText", one, impl.RecText)
	}
	row := wantRecBytes(recOf(kindSet, 1, 300, 513))
	for _, b := range [][]byte{nil, {}, row[:7], row, append(slices.Clone(row), 0), turned(row, 5)} {
		checkCall(t, "RecGet", b, func(b []byte) recAnswer {
			got, ok := impl.RecGet(b)
			return recAnswer{got, ok}
		})
	}
	full := bytes.Repeat(row, allPlaces+1)
	for _, half := range [][]byte{nil, {}, full[:248], full[:255], full[:256], full[:257], full, halfWith(nil), halfWith(map[int][]byte{3: row})} {
		checkCall(t, "Scan", half, callScan)
	}
}

// What lies behind the length is not read: with it these would be a record, or a half.
func TestRecordsBehindTheLength(t *testing.T) {
	row := wantRecBytes(recOf(kindSet, 1, 300, 513))
	for count := range recSize {
		if got, ok := impl.RecGet(row[:count]); ok || got != (impl.Rec{}) {
			t.Errorf("%d bytes: %+v", count, got)
		}
	}
	full := bytes.Repeat(row, allPlaces+1)
	if got, used := impl.Scan(full[:halfSize-1]); used != 0 || len(got) > 0 {
		t.Errorf("255 bytes: %v, %d", got, used)
	}
	copy(full, blankBytes(halfSize))
	if got, used := impl.Scan(full[:halfSize]); used != 0 || len(got) > 0 {
		t.Errorf("blank bytes ahead of a record: %v, %d", got, used)
	}
}

// What was answered once may be spoilt: what is answered next is as it was.
func TestRecordsAreNotKept(t *testing.T) {
	half := halfWith(map[int][]byte{0: wantRecBytes(recOf(kindHead, 0, 7, 0)), 4: wantRecBytes(recOf(kindSet, 1, 300, 513))})
	for range 3 {
		for _, one := range edgeRecs() {
			checkRec(t, one)
			spoil(impl.RecPut(one))
			spoil(impl.RecText(one))
		}
		checkScan(t, "again", half)
		got, _ := impl.Scan(half)
		clear(got[:cap(got)])
	}
}
