package tests

import (
	"bytes"
	"crypto/sha256"
	"encoding"
	"encoding/binary"
	"encoding/hex"
	"hash"
	"math"
	"slices"
	"testing"

	"loop.example/g00412/impl"
)

const (
	blockBytes = 64
	maxWord    = 1<<32 - 1
)

var shaExamples = []struct{ text, sum string }{
	{"", "e3b0c44298fc1c149afbf4c8996fb92427ae41e4649b934ca495991b7852b855"},
	{"abc", "ba7816bf8f01cfea414140de5dae2223b00361a396177a9cb410ff61f20015ad"},
	{"abcdbcdecdefdefgefghfghighijhijkijkljklmklmnlmnomnopnopq", "248d6a61d20638b8e5c026930c3e6039a33ce45964ff2167f6ecedd419db06c1"},
	{"abcdefghbcdefghicdefghijdefghijkefghijklfghijklmghijklmnhijklmnoijklmnopjklmnopqklmnopqrlmnopqrsmnopqrstnopqrstu",
		"cf5b16a778af8380036ce59e7b0492370b249b11e8f07a51afac45037afee9d1"},
}

var firstWords = []int{0x6a09e667, 0xbb67ae85, 0x3c6ef372, 0xa54ff53a, 0x510e527f, 0x9b05688c, 0x1f83d9ab, 0x5be0cd19}

var wrongWords = []int{math.MinInt, -1 << 32, -1, maxWord + 1, 1 << 33, math.MaxInt}

// fills are bytes of one length, the ordinary and the greatest and least among them.
func fills(count int) [][]byte {
	return [][]byte{patternBytes(count), make([]byte, count), bytes.Repeat([]byte{255}, count), bytes.Repeat([]byte{0x80}, count)}
}

// libState is the library's sum in the midst of its work; the words, the count and the tail may be any.
func libState(t *testing.T, h []int, n int, tail []byte) hash.Hash {
	t.Helper()
	b := []byte("sha\x03")
	for _, word := range h {
		b = binary.BigEndian.AppendUint32(b, uint32(word))
	}
	b = append(b, tail...)
	b = append(b, make([]byte, blockBytes-len(tail))...)
	b = binary.BigEndian.AppendUint64(b, uint64(n))
	d := sha256.New()
	if err := d.(encoding.BinaryUnmarshaler).UnmarshalBinary(b); err != nil {
		t.Fatal(err)
	}
	return d
}

func wantWords(t *testing.T, state hash.Hash) []int {
	t.Helper()
	b, err := state.(encoding.BinaryMarshaler).MarshalBinary()
	if err != nil {
		t.Fatal(err)
	}
	var h []int
	for i := range 8 {
		h = append(h, int(binary.BigEndian.Uint32(b[4+4*i:])))
	}
	return h
}

func wantAdd(t *testing.T, s impl.Sha, b []byte) impl.Sha {
	t.Helper()
	state := libState(t, s.H, s.N, s.Tail)
	state.Write(b)
	all := slices.Concat(s.Tail, b)
	return impl.Sha{H: wantWords(t, state), N: s.N + len(b), Tail: all[len(all)/blockBytes*blockBytes:]}
}

func wantEnd(t *testing.T, s impl.Sha) []byte {
	t.Helper()
	return libState(t, s.H, s.N, s.Tail).Sum(nil)
}

func equalSha(a, b impl.Sha) bool {
	return slices.Equal(a.H, b.H) && a.N == b.N && bytes.Equal(a.Tail, b.Tail)
}

// anySha has words that no bytes need ever have come to.
func anySha(n int) impl.Sha {
	var h []int
	for i := range 8 {
		h = append(h, (n*n+i*2654435761+n*i*40503+1)&maxWord)
	}
	return impl.Sha{H: h, N: n, Tail: patternBytes(n % blockBytes)}
}

func checkAdd(t *testing.T, s impl.Sha, b []byte) impl.Sha {
	t.Helper()
	got, ok := impl.ShaAdd(s, b)
	if want := wantAdd(t, s, b); !ok || !equalSha(got, want) {
		t.Fatalf("ShaAdd(N %d, %d bytes) = %x, %v, want %x", s.N, len(b), got, ok, want)
	}
	if !impl.ShaOk(got) {
		t.Fatalf("ShaAdd(N %d, %d bytes) is not ShaOk", s.N, len(b))
	}
	return got
}

func checkEnd(t *testing.T, s impl.Sha) {
	t.Helper()
	got, ok := impl.ShaEnd(s)
	if want := wantEnd(t, s); !ok || !bytes.Equal(got, want) {
		t.Fatalf("ShaEnd(N %d) = %x, %v, want %x", s.N, got, ok, want)
	}
}

// checkWrongSha: no function takes s, and each says so in its own way.
func checkWrongSha(t *testing.T, name string, s impl.Sha) {
	t.Helper()
	if impl.ShaOk(s) {
		t.Errorf("%s: ShaOk", name)
	}
	for _, b := range [][]byte{nil, {1}, patternBytes(blockBytes), patternBytes(impl.MaxHash)} {
		if got, ok := impl.ShaAdd(s, b); ok || !equalSha(got, impl.Sha{}) {
			t.Errorf("%s: ShaAdd of %d bytes = %x, %v", name, len(b), got, ok)
		}
	}
	if got, ok := impl.ShaEnd(s); ok || len(got) != 0 {
		t.Errorf("%s: ShaEnd = %x, %v", name, got, ok)
	}
}

func checkWrongBlock(t *testing.T, h []int, block []byte) {
	t.Helper()
	if got, ok := impl.ShaBlock(h, block); ok || len(got) != 0 {
		t.Errorf("ShaBlock(%x, %d bytes) = %x, %v", h, len(block), got, ok)
	}
}

func TestShaExamples(t *testing.T) {
	for _, e := range shaExamples {
		if got := hex.EncodeToString(impl.Sha256([]byte(e.text))); got != e.sum {
			t.Errorf("Sha256(%q) = %s, want %s", e.text, got, e.sum)
		}
	}
	// The standard's example of two blocks tells the words between them, too.
	padded := append([]byte(shaExamples[2].text), 0x80, 0, 0, 0, 0, 0, 0, 0)
	between := []int{0x85e655d6, 0x417a1795, 0x3363376a, 0x624cde5c, 0x76e09589, 0xcac5f811, 0xcc4b32c1, 0xf20e533a}
	if got, ok := impl.ShaBlock(firstWords, padded); !ok || !slices.Equal(got, between) {
		t.Errorf("ShaBlock = %x, %v, want %x", got, ok, between)
	}
}

func TestShaNew(t *testing.T) {
	s := impl.ShaNew()
	if !equalSha(s, impl.Sha{H: firstWords}) || !impl.ShaOk(s) {
		t.Errorf("ShaNew() = %x", s)
	}
	checkEnd(t, s)
}

func TestSha256Lengths(t *testing.T) {
	counts := []int{1000, 4095, 4096, 8192, 16383, 16384, 19903, 19904, 19959, 19960, 19967, 19968, 19999, impl.MaxHash}
	for count := range 520 {
		counts = append(counts, count)
	}
	for _, count := range counts {
		for _, b := range fills(count) {
			want := sha256.Sum256(b)
			if got := impl.Sha256(b); !bytes.Equal(got, want[:]) {
				t.Fatalf("Sha256 of %d bytes = %x, want %x", count, got, want)
			}
		}
	}
}

func TestSha256EachByteCounts(t *testing.T) {
	for _, count := range []int{1, 55, 56, 64, 119, 120, 128} {
		b := patternBytes(count)
		for i := range b {
			for bit := range 8 {
				b[i] ^= 1 << bit
				want := sha256.Sum256(b)
				if got := impl.Sha256(b); !bytes.Equal(got, want[:]) {
					t.Fatalf("Sha256(%x) = %x, want %x", b, got, want)
				}
				b[i] ^= 1 << bit
			}
		}
	}
}

func TestSha256Limit(t *testing.T) {
	for _, count := range []int{impl.MaxHash + 1, impl.MaxHash + blockBytes, 1 << 20} {
		if got := impl.Sha256(make([]byte, count)); len(got) != 0 {
			t.Errorf("Sha256 of %d bytes = %x", count, got)
		}
	}
}

func TestShaAddInTwoParts(t *testing.T) {
	for count := range 260 {
		b := patternBytes(count)
		whole := checkAdd(t, impl.ShaNew(), b)
		for at := range count + 1 {
			s := checkAdd(t, checkAdd(t, impl.ShaNew(), b[:at]), b[at:])
			sum, ok := impl.ShaEnd(s)
			if !equalSha(s, whole) || !ok || !bytes.Equal(sum, impl.Sha256(b)) {
				t.Fatalf("%d bytes parted at %d: %x, %x, want %x", count, at, s, sum, whole)
			}
		}
		checkEnd(t, whole)
	}
}

func TestShaAddInThreeParts(t *testing.T) {
	b := patternBytes(2*blockBytes + 1)
	whole := wantAdd(t, impl.ShaNew(), b)
	for at := range len(b) + 1 {
		first, _ := impl.ShaAdd(impl.ShaNew(), b[:at])
		for next := at; next <= len(b); next++ {
			second, _ := impl.ShaAdd(first, b[at:next])
			if third, ok := impl.ShaAdd(second, b[next:]); !ok || !equalSha(third, whole) {
				t.Fatalf("parted at %d and %d: %x, %v, want %x", at, next, third, ok, whole)
			}
		}
	}
}

func TestShaAddInManyParts(t *testing.T) {
	b := patternBytes(impl.MaxHash)
	want := sha256.Sum256(b)
	for _, part := range []int{1, 7, 63, 64, 65, 127, 128, 4999, impl.MaxHash} {
		s := impl.ShaNew()
		for l := range slices.Chunk(b, part) {
			s, _ = impl.ShaAdd(s, l)
			s, _ = impl.ShaAdd(s, nil)
		}
		if got, ok := impl.ShaEnd(s); !ok || !bytes.Equal(got, want[:]) || s.N != impl.MaxHash {
			t.Errorf("parts of %d: %x, %v, want %x", part, got, ok, want)
		}
	}
}

func TestShaAddNothing(t *testing.T) {
	for n := range 3 * blockBytes {
		s := anySha(n)
		for _, b := range [][]byte{nil, {}} {
			if got := checkAdd(t, s, b); !equalSha(got, s) {
				t.Fatalf("nothing added to N %d: %x, was %x", n, got, s)
			}
		}
	}
	empty := impl.Sha{H: firstWords, Tail: []byte{}}
	if !impl.ShaOk(empty) || !equalSha(checkAdd(t, empty, nil), impl.ShaNew()) {
		t.Error("an empty Tail is not as none")
	}
	checkEnd(t, empty)
}

func TestShaAddLimit(t *testing.T) {
	for _, n := range []int{0, 1, 63, 64, 65, 10000, impl.MaxHash - 64, impl.MaxHash - 1, impl.MaxHash} {
		s := anySha(n)
		got := checkAdd(t, s, patternBytes(impl.MaxHash-n))
		checkEnd(t, got)
		for _, more := range []int{1, 2, 63, 64, 65, impl.MaxHash} {
			if got, ok := impl.ShaAdd(s, patternBytes(impl.MaxHash-n+more)); ok || !equalSha(got, impl.Sha{}) {
				t.Errorf("ShaAdd(N %d, %d too many) = %x, %v", n, more, got, ok)
			}
		}
	}
}

func TestShaAddToAnyWords(t *testing.T) {
	for n := range 2 * blockBytes {
		for _, count := range []int{1, 2, 55, 56, 63, 64, 65, 128, 191, 192, 193} {
			checkAdd(t, anySha(n), patternBytes(count))
		}
	}
}

func TestShaEndOfAnyWords(t *testing.T) {
	for n := range impl.MaxHash + 1 {
		if n < 1000 || n%97 == 0 || n > impl.MaxHash-200 {
			checkEnd(t, anySha(n))
		}
	}
}

func TestShaBlock(t *testing.T) {
	edges := [][]int{firstWords, make([]int, 8), slices.Repeat([]int{maxWord}, 8), {0, maxWord, 1, 1 << 31, 1<<31 - 1, 2, maxWord - 1, 0}}
	blocks := [][]byte{patternBytes(blockBytes), make([]byte, blockBytes), bytes.Repeat([]byte{255}, blockBytes)}
	for n := range 300 {
		edges = append(edges, anySha(n).H)
	}
	for _, h := range edges {
		for _, block := range blocks {
			want := wantAdd(t, impl.Sha{H: h}, block).H
			if got, ok := impl.ShaBlock(h, block); !ok || !slices.Equal(got, want) {
				t.Fatalf("ShaBlock(%x, %x) = %x, %v, want %x", h, block, got, ok, want)
			}
		}
	}
}

func TestShaBlockWrong(t *testing.T) {
	block := patternBytes(blockBytes)
	for _, count := range []int{0, 1, 63, 65, 127, 128, impl.MaxHash} {
		checkWrongBlock(t, firstWords, patternBytes(count))
	}
	for _, count := range []int{0, 1, 7, 9, 16} {
		checkWrongBlock(t, make([]int, count), block)
	}
	for i := range firstWords {
		for _, word := range wrongWords {
			h := slices.Clone(firstWords)
			h[i] = word
			checkWrongBlock(t, h, block)
			checkWrongBlock(t, h, nil)
		}
	}
	checkWrongBlock(t, nil, nil)
}

func TestShaOkWords(t *testing.T) {
	for _, count := range []int{0, 1, 7, 9, 16} {
		checkWrongSha(t, "not eight words", impl.Sha{H: make([]int, count)})
	}
	checkWrongSha(t, "the zero value", impl.Sha{})
	for i := range firstWords {
		for _, word := range wrongWords {
			s := anySha(100)
			s.H[i] = word
			checkWrongSha(t, "a wrong word", s)
		}
		for _, word := range []int{0, 1, maxWord - 1, maxWord} {
			s := anySha(100)
			s.H[i] = word
			if !impl.ShaOk(s) {
				t.Errorf("word %d is %x: not ShaOk", i, word)
			}
			checkEnd(t, s)
		}
	}
}

func TestShaOkCount(t *testing.T) {
	for _, n := range []int{math.MinInt, -impl.MaxHash, -65, -64, -63, -1, impl.MaxHash + 1, impl.MaxHash + 32, 1 << 32, math.MaxInt} {
		for count := range blockBytes + 1 {
			checkWrongSha(t, "a wrong N", impl.Sha{H: firstWords, N: n, Tail: patternBytes(count)})
		}
	}
}

func TestShaOkTail(t *testing.T) {
	for _, n := range []int{0, 1, 62, 63, 64, 65, 127, 128, 129, impl.MaxHash - 1, impl.MaxHash} {
		for count := range 3 * blockBytes {
			s := impl.Sha{H: firstWords, N: n, Tail: patternBytes(count)}
			if count != n%blockBytes {
				checkWrongSha(t, "a wrong Tail", s)
			} else if !impl.ShaOk(s) {
				t.Errorf("N %d, a Tail of %d: not ShaOk", n, count)
			}
		}
	}
}

// lendSha lends a Sha with spare room behind both of its lists.
func lendSha(s impl.Sha) (impl.Sha, []lender) {
	h, tail := newRoomy(s.H), newRoomy(s.Tail)
	return impl.Sha{H: h.list(), N: s.N, Tail: tail.list()}, []lender{h, tail}
}

func answerOf(s impl.Sha) answer {
	return answer{bytes: [][]byte{s.Tail}, ints: [][]int{s.H}}
}

func TestShaMemory(t *testing.T) {
	wrong := anySha(70)
	wrong.H[7] = -1
	for _, s := range []impl.Sha{impl.ShaNew(), anySha(1), anySha(55), anySha(56), anySha(63), anySha(128), anySha(impl.MaxHash), wrong, {}} {
		for _, count := range []int{0, 1, 8, 63, 64, 65, 128} {
			lentSha, lent := lendSha(s)
			b := newRoomy(patternBytes(count))
			checkAnswer(t, "ShaAdd", append(lent, b), func() answer {
				got, _ := impl.ShaAdd(lentSha, b.list())
				return answerOf(got)
			})
		}
		lentSha, lent := lendSha(s)
		checkAnswer(t, "ShaEnd", lent, func() answer {
			impl.ShaOk(lentSha)
			got, _ := impl.ShaEnd(lentSha)
			return answer{bytes: [][]byte{got}}
		})
	}
	checkAnswer(t, "ShaNew", nil, func() answer { return answerOf(impl.ShaNew()) })
}

func TestShaBlockMemory(t *testing.T) {
	for _, words := range [][]int{firstWords, {1}, nil} {
		for _, count := range []int{0, 63, 64, 65} {
			h, block := newRoomy(words), newRoomy(patternBytes(count))
			checkAnswer(t, "ShaBlock", []lender{h, block}, func() answer {
				got, _ := impl.ShaBlock(h.list(), block.list())
				return answer{ints: [][]int{got}}
			})
		}
	}
	for _, count := range []int{0, 1, 55, 56, 63, 64, 65, impl.MaxHash, impl.MaxHash + 1} {
		checkMemory(t, "Sha256", func(args [][]byte) []byte { return impl.Sha256(args[0]) }, patternBytes(count))
	}
}

// What lies behind a list's length plays no part in an answer.
func TestShaSpareRoom(t *testing.T) {
	for n := range 2 * blockBytes {
		s, _ := lendSha(anySha(n))
		b := newRoomy(patternBytes(n))
		checkEnd(t, s)
		checkAdd(t, s, b.list())
		want := sha256.Sum256(b.list())
		if got := impl.Sha256(b.list()); !bytes.Equal(got, want[:]) {
			t.Fatalf("Sha256 of %d bytes with spare room = %x, want %x", n, got, want)
		}
	}
}
