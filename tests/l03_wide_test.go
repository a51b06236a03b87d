package tests

import (
	"bytes"
	"crypto/sha512"
	"encoding/binary"
	"encoding/hex"
	"math"
	"math/big"
	"math/bits"
	"slices"
	"testing"

	"loop.example/g00412/impl"
)

const (
	wideBlockBytes = 128
	wideRounds     = 80
)

var wideExamples = []struct{ text, sum string }{
	{"", "cf83e1357eefb8bdf1542850d66d8007d620e4050b5715dc83f4a921d36ce9ce47d0d13c5d85f2b0ff8318d2877eec2f63b931bd47417a81a538327af927da3e"},
	{"abc", "ddaf35a193617abacc417349ae20413112e6fa4e89a97ea20a9eeee64b55d39a2192992a274fc1a836ba3c23a3feebbd454d4423643ce80e2a9ac94fa54ca49f"},
	{"abcdefghbcdefghicdefghijdefghijkefghijklfghijklmghijklmnhijklmnoijklmnopjklmnopqklmnopqrlmnopqrsmnopqrstnopqrstu",
		"8e959b75dae313da8cf4f72814fc143f8f7779c6eb9f7fa17299aeadb6889018501d289e4900f7e4331b99dec4b5433ac7d329eeb6dd26545e96e55b874be909"},
}

func checkSha512(t *testing.T, b []byte) {
	t.Helper()
	want := sha512.Sum512(b)
	if got := impl.Sha512(b); !bytes.Equal(got, want[:]) {
		t.Fatalf("Sha512 of %d bytes = %x, want %x", len(b), got, want)
	}
}

func TestSha512Examples(t *testing.T) {
	for _, e := range wideExamples {
		if got := hex.EncodeToString(impl.Sha512([]byte(e.text))); got != e.sum {
			t.Errorf("Sha512(%q) = %s, want %s", e.text, got, e.sum)
		}
	}
	if got := hex.EncodeToString(impl.Sha512(nil)); got != wideExamples[0].sum {
		t.Errorf("Sha512(nil) = %s", got)
	}
}

// The length stands in the last sixteen bytes of a block: from 112 bytes on it takes one block more.
func TestSha512Lengths(t *testing.T) {
	counts := []int{1000, 4095, 4096, 8191, 8192, 16383, 16384, 19823, 19824, 19839, 19840, 19951, 19952, 19967, 19968, 19999, impl.MaxHash}
	for count := range 800 {
		counts = append(counts, count)
	}
	for _, count := range counts {
		for _, b := range fills(count) {
			checkSha512(t, b)
		}
	}
}

func TestSha512EachByteCounts(t *testing.T) {
	for _, count := range []int{1, 111, 112, 113, 119, 120, 127, 128, 129, 239, 240} {
		b := patternBytes(count)
		for i := range b {
			for bit := range 8 {
				b[i] ^= 1 << bit
				checkSha512(t, b)
				b[i] ^= 1 << bit
			}
		}
	}
}

func TestSha512Limit(t *testing.T) {
	for _, b := range fills(impl.MaxHash) {
		checkSha512(t, b)
	}
	for _, count := range []int{impl.MaxHash + 1, impl.MaxHash + wideBlockBytes, 1 << 20} {
		if got := impl.Sha512(make([]byte, count)); len(got) != 0 {
			t.Errorf("Sha512 of %d bytes = %x", count, got)
		}
	}
}

// wantWide writes the standard's schedule down as the standard tells it.
func wantWide(block []byte) []int {
	var words [wideRounds]uint64
	for i := range words {
		if i < 16 {
			words[i] = binary.BigEndian.Uint64(block[8*i:])
			continue
		}
		two, fifteen := words[i-2], words[i-15]
		one := bits.RotateLeft64(two, -19) ^ bits.RotateLeft64(two, -61) ^ two>>6
		zero := bits.RotateLeft64(fifteen, -1) ^ bits.RotateLeft64(fifteen, -8) ^ fifteen>>7
		words[i] = one + words[i-7] + zero + words[i-16]
	}
	var halves []int
	for _, word := range words {
		halves = append(halves, int(word>>32), int(word&maxWord))
	}
	return halves
}

func checkWide(t *testing.T, block []byte) {
	t.Helper()
	got, ok := impl.Wide(block)
	if want := wantWide(block); !ok || !slices.Equal(got, want) {
		t.Fatalf("Wide(%x) = %x, %v, want %x", block, got, ok, want)
	}
}

func TestWide(t *testing.T) {
	for _, block := range fills(wideBlockBytes) {
		checkWide(t, block)
	}
	for i := range wideBlockBytes {
		for bit := range 8 {
			for _, block := range fills(wideBlockBytes) {
				block[i] ^= 1 << bit
				checkWide(t, block)
			}
		}
	}
}

func TestWideOfBlocksOfASum(t *testing.T) {
	b := patternBytes(impl.MaxHash)
	for at := 0; at+wideBlockBytes <= len(b); at += 37 {
		sum := sha512.Sum512(b[at : at+wideBlockBytes])
		checkWide(t, b[at:at+wideBlockBytes])
		checkWide(t, slices.Concat(sum[:], b[at:at+wideBlockBytes-len(sum)]))
	}
}

func TestWideWrong(t *testing.T) {
	for count := range 3 * wideBlockBytes {
		for _, b := range fills(count) {
			if got, ok := impl.Wide(b); ok != (count == wideBlockBytes) || !ok && len(got) != 0 {
				t.Errorf("Wide of %d bytes = %x, %v", count, got, ok)
			}
		}
	}
	for _, b := range [][]byte{nil, {}, make([]byte, impl.MaxHash), make([]byte, impl.MaxHash+1)} {
		if got, ok := impl.Wide(b); ok || len(got) != 0 {
			t.Errorf("Wide of %d bytes = %x, %v", len(b), got, ok)
		}
	}
}

// cubeRootBits are the first 64 bits behind the point of n's cube root.
func cubeRootBits(n int64) uint64 {
	root := new(big.Int)
	grown := new(big.Int).Lsh(big.NewInt(n), 3*64)
	three := big.NewInt(3)
	for bit := 72; bit >= 0; bit-- {
		next := new(big.Int).SetBit(root, bit, 1)
		if new(big.Int).Exp(next, three, nil).Cmp(grown) <= 0 {
			root = next
		}
	}
	return new(big.Int).And(root, new(big.Int).SetUint64(math.MaxUint64)).Uint64()
}

func firstPrimes(count int) []int64 {
	var primes []int64
	for n := int64(2); len(primes) < count; n++ {
		if big.NewInt(n).ProbablyPrime(0) {
			primes = append(primes, n)
		}
	}
	return primes
}

// The standard takes its constants from the cube roots of the first eighty primes.
func TestRound512(t *testing.T) {
	for i, prime := range firstPrimes(wideRounds) {
		want := cubeRootBits(prime)
		upper, lower, ok := impl.Round512(i)
		if !ok || upper != int(want>>32) || lower != int(want&maxWord) {
			t.Errorf("Round512(%d) = %x, %x, %v, want %x", i, upper, lower, ok, want)
		}
	}
	upper, lower, _ := impl.Round512(0)
	if upper != 0x428a2f98 || lower != 0xd728ae22 {
		t.Errorf("Round512(0) = %x, %x", upper, lower)
	}
	upper, lower, _ = impl.Round512(wideRounds - 1)
	if upper != 0x6c44198c || lower != 0x4a475817 {
		t.Errorf("Round512(79) = %x, %x", upper, lower)
	}
}

func TestRound512Wrong(t *testing.T) {
	for _, i := range []int{math.MinInt, -1 << 32, -81, -80, -79, -2, -1, 80, 81, 159, 160, 256, 1 << 32, 1<<32 + 1, math.MaxInt} {
		if upper, lower, ok := impl.Round512(i); ok || upper != 0 || lower != 0 {
			t.Errorf("Round512(%d) = %x, %x, %v", i, upper, lower, ok)
		}
	}
}

func TestWideMemory(t *testing.T) {
	for _, count := range []int{0, 1, 111, 112, 119, 120, 127, 128, 129, 256, impl.MaxHash, impl.MaxHash + 1} {
		checkMemory(t, "Sha512", func(args [][]byte) []byte { return impl.Sha512(args[0]) }, patternBytes(count))
		b := newRoomy(patternBytes(count))
		checkAnswer(t, "Wide", []lender{b}, func() answer {
			got, _ := impl.Wide(b.list())
			return answer{ints: [][]int{got}}
		})
	}
}

// What lies behind a list's length plays no part in an answer.
func TestWideSpareRoom(t *testing.T) {
	for count := range 2*wideBlockBytes + 1 {
		b := newRoomy(patternBytes(count))
		checkSha512(t, b.list())
		if got, ok := impl.Wide(b.list()); ok != (count == wideBlockBytes) || ok && !slices.Equal(got, wantWide(b.list())) {
			t.Fatalf("Wide of %d bytes with spare room = %x, %v", count, got, ok)
		}
	}
}
