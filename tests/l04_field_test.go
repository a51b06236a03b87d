package tests

import (
	"bytes"
	"crypto/sha256"
	"encoding/binary"
	"math"
	"math/big"
	"slices"
	"testing"

	"loop.example/g00412/impl"
)

const (
	fieldLimbs = 16
	fieldBytes = 32
)

var fieldPrime = new(big.Int).Sub(power2(255), big.NewInt(19))

// Example roots, as written out elsewhere: the even root of p - 1, and the even x of the curve's base.
const (
	evenRootOfMinusOne = "2b8324804fc1df0b2b4d00993dfbd7a72f431806ad2fe478c4ee1b274a0ea0b0"
	evenBaseX          = "216936d3cd6e53fec0a4e231fdd6dc5c692cc7609525a7b2c9562d608f25d51a"
)

type fieldJoin struct {
	name  string
	join  func(a, b impl.Fe) (impl.Fe, bool)
	whole func(z, a, b *big.Int) *big.Int
}

func fieldJoins() []fieldJoin {
	return []fieldJoin{
		{"FeAdd", impl.FeAdd, (*big.Int).Add},
		{"FeSub", impl.FeSub, (*big.Int).Sub},
		{"FeMul", impl.FeMul, (*big.Int).Mul},
	}
}

func power2(bits uint) *big.Int { return new(big.Int).Lsh(big.NewInt(1), bits) }

func plus(n *big.Int, by int64) *big.Int { return new(big.Int).Add(n, big.NewInt(by)) }

func modPrime(n *big.Int) *big.Int { return new(big.Int).Mod(n, fieldPrime) }

// lowFirst tells any number below 2^256 in 32 bytes.
func lowFirst(n *big.Int) []byte {
	b := n.FillBytes(make([]byte, fieldBytes))
	slices.Reverse(b)
	return b
}

func wholeOf(b []byte) *big.Int {
	high := slices.Clone(b)
	slices.Reverse(high)
	return new(big.Int).SetBytes(high)
}

// feOf does not use the program: it takes any number below 2^256, also those that are none of the field's.
func feOf(n *big.Int) impl.Fe {
	b := lowFirst(n)
	var l []int
	for i := range fieldLimbs {
		l = append(l, int(binary.LittleEndian.Uint16(b[2*i:])))
	}
	return impl.Fe{L: l}
}

func equalFe(a, b impl.Fe) bool { return slices.Equal(a.L, b.L) }

// anyNumbers are spread over the whole field.
func anyNumbers(count int) []*big.Int {
	var out []*big.Int
	for i := range count {
		sum := sha256.Sum256([]byte{byte(i), byte(i >> 8), 4})
		out = append(out, modPrime(wholeOf(sum[:])))
	}
	return out
}

// edgeNumbers lie around 0, p, half of p, the powers of two where a limb ends, and where limbs are greatest.
func edgeNumbers() []*big.Int {
	half := new(big.Int).Rsh(fieldPrime, 1)
	middles := []*big.Int{big.NewInt(0), fieldPrime, half, big.NewInt(math.MaxInt), power2(252), power2(253), power2(254), power2(255)}
	for bits := uint(16); bits < 256; bits += 16 {
		middles = append(middles, power2(bits), new(big.Int).Sub(fieldPrime, power2(bits)))
	}
	var out []*big.Int
	for _, middle := range middles {
		for by := int64(-2); by <= 2; by++ {
			out = append(out, plus(middle, by))
		}
	}
	for by := int64(3); by < 40; by++ {
		out = append(out, big.NewInt(by), plus(fieldPrime, -by))
	}
	out = append(out, wholeOf(bytes.Repeat([]byte{0x55}, fieldBytes)), wholeOf(bytes.Repeat([]byte{0xff, 0xff, 0, 0}, 8)), wholeOf(bytes.Repeat([]byte{0, 0, 0xff, 0x7f}, 8)))
	return slices.DeleteFunc(out, func(n *big.Int) bool { return n.Sign() < 0 || n.Cmp(fieldPrime) >= 0 })
}

// wrongFes are none of the field's numbers, each for a reason of its own.
func wrongFes() []impl.Fe {
	wrong := []impl.Fe{{}, {L: []int{}}}
	for _, count := range []int{1, 15, 17, 31, 32} {
		wrong = append(wrong, impl.Fe{L: make([]int, count)}, impl.Fe{L: slices.Repeat([]int{1}, count)})
	}
	for by := range int64(21) {
		wrong = append(wrong, feOf(plus(fieldPrime, by)))
	}
	for _, n := range []*big.Int{plus(power2(255), -1), power2(255), plus(power2(255), 1), plus(power2(256), -1), new(big.Int).Lsh(fieldPrime, 1)} {
		wrong = append(wrong, feOf(n))
	}
	for i := range fieldLimbs {
		for _, limb := range []int{math.MinInt, -65536, -65535, -1, 65536, 65537, 1 << 32, 1<<32 + 1, math.MaxInt} {
			a := feOf(big.NewInt(5))
			a.L[i] = limb
			wrong = append(wrong, a)
		}
	}
	return wrong
}

func checkJoin(t *testing.T, f fieldJoin, a, b *big.Int) {
	t.Helper()
	got, ok := f.join(feOf(a), feOf(b))
	want := feOf(modPrime(f.whole(new(big.Int), a, b)))
	if !ok || !equalFe(got, want) {
		t.Fatalf("%s(%x, %x) = %x, %v, want %x", f.name, a, b, got.L, ok, want.L)
	}
}

func checkJoins(t *testing.T, a, b *big.Int) {
	t.Helper()
	for _, f := range fieldJoins() {
		checkJoin(t, f, a, b)
		checkJoin(t, f, b, a)
	}
}

func checkInverse(t *testing.T, n *big.Int) {
	t.Helper()
	a := feOf(n)
	got, ok := impl.FeInv(a)
	if want := feOf(new(big.Int).ModInverse(n, fieldPrime)); !ok || !equalFe(got, want) {
		t.Fatalf("FeInv(%x) = %x, %v, want %x", n, got.L, ok, want.L)
	}
	for _, pair := range [][2]impl.Fe{{a, got}, {got, a}} {
		if one, ok := impl.FeMul(pair[0], pair[1]); !ok || !equalFe(one, feOf(big.NewInt(1))) {
			t.Fatalf("%x times its inverse = %x, %v", n, one.L, ok)
		}
	}
	if back, ok := impl.FeInv(got); !ok || !equalFe(back, a) {
		t.Fatalf("the inverse of the inverse of %x = %x, %v", n, back.L, ok)
	}
}

// checkRoot holds a root against the library's, of which the even one is taken.
func checkRoot(t *testing.T, n *big.Int) {
	t.Helper()
	a := feOf(n)
	got, ok := impl.FeRoot(a)
	want := new(big.Int).ModSqrt(n, fieldPrime)
	if want == nil {
		if ok || !equalFe(got, impl.Fe{}) {
			t.Fatalf("FeRoot(%x) = %x, %v, but it has none", n, got.L, ok)
		}
		return
	}
	if want.Bit(0) == 1 {
		want.Sub(fieldPrime, want)
	}
	if !ok || !equalFe(got, feOf(want)) || got.L[0]%2 != 0 {
		t.Fatalf("FeRoot(%x) = %x, %v, want %x", n, got.L, ok, want)
	}
	if square, ok := impl.FeMul(got, got); !ok || !equalFe(square, a) {
		t.Fatalf("the square of the root of %x = %x, %v", n, square.L, ok)
	}
}

// checkRead: bytes are read just if they are a number's, and are that number's bytes.
func checkRead(t *testing.T, b []byte) {
	t.Helper()
	got, ok := impl.FeRead(b)
	if len(b) != fieldBytes || wholeOf(b).Cmp(fieldPrime) >= 0 {
		if ok || !equalFe(got, impl.Fe{}) {
			t.Fatalf("FeRead(%x) = %x, %v", b, got.L, ok)
		}
		return
	}
	if want := feOf(wholeOf(b)); !ok || !equalFe(got, want) || !impl.FeOk(got) {
		t.Fatalf("FeRead(%x) = %x, %v, want %x", b, got.L, ok, want.L)
	}
	if back := impl.FeBytes(got); !bytes.Equal(back, b) {
		t.Fatalf("FeBytes of what was read of %x = %x", b, back)
	}
}

func checkBytes(t *testing.T, n *big.Int) {
	t.Helper()
	a := feOf(n)
	b := impl.FeBytes(a)
	if !bytes.Equal(b, lowFirst(n)) {
		t.Fatalf("FeBytes(%x) = %x, want %x", n, b, lowFirst(n))
	}
	if back, ok := impl.FeRead(b); !ok || !equalFe(back, a) {
		t.Fatalf("%x came back as %x, %v", n, back.L, ok)
	}
	checkRead(t, b)
}

func TestFeOk(t *testing.T) {
	for _, n := range slices.Concat(edgeNumbers(), anyNumbers(500)) {
		if !impl.FeOk(feOf(n)) {
			t.Errorf("%x is not FeOk", n)
		}
	}
	for _, a := range wrongFes() {
		if impl.FeOk(a) {
			t.Errorf("%x is FeOk", a.L)
		}
	}
}

// Of 0 and of p - 1 one limb is another: within its bounds it may still leave no number below p.
func TestFeOkLimbs(t *testing.T) {
	for i := range fieldLimbs {
		for _, limb := range []int{-1, 0, 1, 32766, 32767, 32768, 65516, 65517, 65534, 65535, 65536} {
			low, high := feOf(big.NewInt(0)), feOf(plus(fieldPrime, -1))
			low.L[i], high.L[i] = limb, limb
			within := limb >= 0 && limb <= 65535
			if got, want := impl.FeOk(low), within && (i < 15 || limb <= 32767); got != want {
				t.Errorf("0 but %d at %d: FeOk %v", limb, i, got)
			}
			if got, want := impl.FeOk(high), within && feBelowPrime(high); got != want {
				t.Errorf("p - 1 but %d at %d: FeOk %v", limb, i, got)
			}
		}
	}
}

func feBelowPrime(a impl.Fe) bool {
	sum := new(big.Int)
	for i, limb := range a.L {
		sum.Add(sum, new(big.Int).Lsh(big.NewInt(int64(limb)), uint(16*i)))
	}
	return sum.Cmp(fieldPrime) < 0
}

func TestFeOf(t *testing.T) {
	numbers := []int{0, 1, 2, 65534, 65535, 65536, 65537, 1<<32 - 1, 1 << 32, 1<<48 - 1, 1 << 48, 1<<62 - 1, 1 << 62, math.MaxInt - 1, math.MaxInt}
	for i := range 63 {
		numbers = append(numbers, 1<<i, 1<<i-1)
	}
	for _, n := range numbers {
		got, ok := impl.FeOf(n)
		if want := feOf(big.NewInt(int64(n))); !ok || !equalFe(got, want) || !impl.FeOk(got) {
			t.Errorf("FeOf(%d) = %x, %v, want %x", n, got.L, ok, want.L)
		}
	}
	for _, n := range []int{math.MinInt, math.MinInt + 1, -1 << 32, -65536, -65535, -2, -1} {
		if got, ok := impl.FeOf(n); ok || !equalFe(got, impl.Fe{}) {
			t.Errorf("FeOf(%d) = %x, %v", n, got.L, ok)
		}
	}
}

func TestFieldJoinsAtEdges(t *testing.T) {
	edges := edgeNumbers()
	for _, a := range edges {
		for _, b := range edges {
			for _, f := range fieldJoins() {
				checkJoin(t, f, a, b)
			}
		}
	}
}

func TestFieldJoinsOfMany(t *testing.T) {
	numbers, edges := anyNumbers(1500), edgeNumbers()
	for i, a := range numbers {
		checkJoins(t, a, a)
		checkJoins(t, a, numbers[(i*7+1)%len(numbers)])
		checkJoins(t, a, edges[i%len(edges)])
	}
}

// Sums and products that are, as whole numbers, just where the field begins anew.
func TestFieldJoinsNearTheEnd(t *testing.T) {
	var ends []*big.Int
	for by := int64(-40); by <= 40; by++ {
		ends = append(ends, plus(fieldPrime, by), plus(power2(255), by))
	}
	for by := int64(-60); by <= -2; by++ {
		ends = append(ends, plus(new(big.Int).Lsh(fieldPrime, 1), by))
	}
	for _, end := range ends {
		for _, a := range append(edgeNumbers(), anyNumbers(20)...) {
			if b := new(big.Int).Sub(end, a); b.Sign() >= 0 && b.Cmp(fieldPrime) < 0 {
				checkJoins(t, a, b)
			}
		}
	}
	for _, end := range append(ends, plus(power2(256), -2), plus(power2(256), 2)) {
		for factor := int64(1); factor < 400; factor++ {
			b, rest := new(big.Int).QuoRem(end, big.NewInt(factor), new(big.Int))
			if rest.Sign() == 0 && b.Cmp(fieldPrime) < 0 {
				checkJoins(t, big.NewInt(factor), b)
			}
		}
	}
}

func TestFieldPowersOfTwo(t *testing.T) {
	for i := range uint(255) {
		for j := range uint(255) {
			checkJoin(t, fieldJoins()[2], power2(i), power2(j))
		}
		checkJoins(t, power2(i), power2(i))
		checkJoins(t, power2(i), plus(power2(254), -1))
		checkJoins(t, power2(i), plus(fieldPrime, -1))
	}
	examples := []struct {
		i, j uint
		want int64
	}{{0, 0, 1}, {1, 254, 19}, {128, 127, 19}, {128, 128, 38}, {254, 2, 38}, {254, 3, 76}}
	for _, e := range examples {
		got, ok := impl.FeMul(feOf(power2(e.i)), feOf(power2(e.j)))
		if !ok || !equalFe(got, feOf(big.NewInt(e.want))) {
			t.Errorf("2^%d times 2^%d = %x, %v, want %d", e.i, e.j, got.L, ok, e.want)
		}
	}
}

// Each sum and product of three is one, however it is come to; a product goes into a sum.
func TestFieldOrder(t *testing.T) {
	numbers := append(anyNumbers(60), edgeNumbers()...)
	add, mul := impl.FeAdd, impl.FeMul
	of := func(f func(a, b impl.Fe) (impl.Fe, bool), a, b impl.Fe) impl.Fe {
		got, ok := f(a, b)
		if !ok {
			t.Fatalf("%x and %x are refused", a.L, b.L)
		}
		return got
	}
	for i := range numbers {
		a, b, c := feOf(numbers[i]), feOf(numbers[(i*3+1)%len(numbers)]), feOf(numbers[(i*5+2)%len(numbers)])
		for _, f := range []func(a, b impl.Fe) (impl.Fe, bool){add, mul} {
			if !equalFe(of(f, a, b), of(f, b, a)) || !equalFe(of(f, of(f, a, b), c), of(f, a, of(f, b, c))) {
				t.Fatalf("the order counts: %x, %x, %x", a.L, b.L, c.L)
			}
		}
		if !equalFe(of(mul, a, of(add, b, c)), of(add, of(mul, a, b), of(mul, a, c))) {
			t.Fatalf("a product of a sum: %x, %x, %x", a.L, b.L, c.L)
		}
		if !equalFe(of(impl.FeSub, of(add, a, b), b), a) || !equalFe(of(add, of(impl.FeSub, a, b), b), a) {
			t.Fatalf("a sum and a difference: %x, %x", a.L, b.L)
		}
	}
}

func TestFieldJoinsWrong(t *testing.T) {
	fine := []impl.Fe{feOf(big.NewInt(0)), feOf(big.NewInt(1)), feOf(plus(fieldPrime, -1))}
	for _, wrong := range wrongFes() {
		for _, f := range fieldJoins() {
			for _, other := range append(fine, wrong, impl.Fe{}) {
				for _, pair := range [][2]impl.Fe{{wrong, other}, {other, wrong}} {
					if got, ok := f.join(pair[0], pair[1]); ok || !equalFe(got, impl.Fe{}) {
						t.Errorf("%s(%x, %x) = %x, %v", f.name, pair[0].L, pair[1].L, got.L, ok)
					}
				}
			}
		}
	}
}

func TestFieldWrong(t *testing.T) {
	for _, wrong := range wrongFes() {
		if got, ok := impl.FeInv(wrong); ok || !equalFe(got, impl.Fe{}) {
			t.Errorf("FeInv(%x) = %x, %v", wrong.L, got.L, ok)
		}
		if got, ok := impl.FeRoot(wrong); ok || !equalFe(got, impl.Fe{}) {
			t.Errorf("FeRoot(%x) = %x, %v", wrong.L, got.L, ok)
		}
		if got := impl.FeBytes(wrong); len(got) != 0 {
			t.Errorf("FeBytes(%x) = %x", wrong.L, got)
		}
	}
}

func TestFeInv(t *testing.T) {
	if got, ok := impl.FeInv(feOf(big.NewInt(0))); ok || !equalFe(got, impl.Fe{}) {
		t.Errorf("FeInv(0) = %x, %v", got.L, ok)
	}
	for n := int64(1); n <= 100; n++ {
		checkInverse(t, big.NewInt(n))
		checkInverse(t, plus(fieldPrime, -n))
	}
	for _, n := range slices.Concat(edgeNumbers(), anyNumbers(200)) {
		if n.Sign() > 0 {
			checkInverse(t, n)
		}
	}
	for _, n := range []*big.Int{big.NewInt(1), plus(fieldPrime, -1)} {
		if got, ok := impl.FeInv(feOf(n)); !ok || !equalFe(got, feOf(n)) {
			t.Errorf("FeInv(%x) = %x, %v", n, got.L, ok)
		}
	}
}

func TestFeRoot(t *testing.T) {
	for n := range int64(120) {
		checkRoot(t, big.NewInt(n))
		checkRoot(t, plus(fieldPrime, -n-1))
	}
	for _, n := range slices.Concat(edgeNumbers(), anyNumbers(200)) {
		checkRoot(t, n)
	}
}

// Both roots of a square have the same even one; twice a square has none, as two is no square.
func TestFeRootOfSquares(t *testing.T) {
	for _, n := range slices.Concat(edgeNumbers(), anyNumbers(150)) {
		square := modPrime(new(big.Int).Mul(n, n))
		want := n
		if n.Bit(0) == 1 {
			want = new(big.Int).Sub(fieldPrime, n)
		}
		if got, ok := impl.FeRoot(feOf(square)); !ok || !equalFe(got, feOf(want)) {
			t.Fatalf("the root of the square of %x = %x, %v", n, got.L, ok)
		}
		if got, ok := impl.FeRoot(feOf(modPrime(new(big.Int).Lsh(square, 1)))); n.Sign() > 0 && (ok || !equalFe(got, impl.Fe{})) {
			t.Fatalf("the root of twice the square of %x = %x, %v", n, got.L, ok)
		}
	}
}

func TestFeRootExamples(t *testing.T) {
	root := func(text string) *big.Int {
		n, _ := new(big.Int).SetString(text, 16)
		return n
	}
	minusOne, baseX := root(evenRootOfMinusOne), root(evenBaseX)
	examples := []struct{ of, root *big.Int }{
		{big.NewInt(0), big.NewInt(0)},
		{big.NewInt(1), plus(fieldPrime, -1)},
		{big.NewInt(4), big.NewInt(2)},
		{big.NewInt(9), plus(fieldPrime, -3)},
		{plus(fieldPrime, -1), minusOne},
		{modPrime(new(big.Int).Mul(baseX, baseX)), baseX},
	}
	for _, e := range examples {
		if got, ok := impl.FeRoot(feOf(e.of)); !ok || !equalFe(got, feOf(e.root)) {
			t.Errorf("FeRoot(%x) = %x, %v, want %x", e.of, got.L, ok, e.root)
		}
	}
	for _, n := range []*big.Int{big.NewInt(2), big.NewInt(8), plus(fieldPrime, -2), plus(fieldPrime, -8)} {
		if got, ok := impl.FeRoot(feOf(n)); ok || !equalFe(got, impl.Fe{}) {
			t.Errorf("FeRoot(%x) = %x, %v", n, got.L, ok)
		}
	}
}

func TestFeBytes(t *testing.T) {
	for _, n := range slices.Concat(edgeNumbers(), anyNumbers(1000)) {
		checkBytes(t, n)
	}
	for bit := range uint(255) {
		checkBytes(t, power2(bit))
		checkBytes(t, new(big.Int).Sub(plus(fieldPrime, -1), power2(bit)))
	}
	one := append([]byte{1}, make([]byte, fieldBytes-1)...)
	if got := impl.FeBytes(feOf(big.NewInt(1))); !bytes.Equal(got, one) {
		t.Errorf("FeBytes(1) = %x", got)
	}
}

func TestFeRead(t *testing.T) {
	for _, n := range []*big.Int{big.NewInt(0), big.NewInt(1), fieldPrime, power2(255), plus(power2(256), -1), new(big.Int).Lsh(fieldPrime, 1)} {
		for by := int64(-40); by <= 40; by++ {
			if near := plus(n, by); near.Sign() >= 0 && near.BitLen() <= 256 {
				checkRead(t, lowFirst(near))
			}
		}
	}
	for _, n := range slices.Concat(edgeNumbers(), anyNumbers(300)) {
		checkRead(t, lowFirst(n))
		checkRead(t, lowFirst(new(big.Int).SetBit(n, 255, 1)))
	}
	for count := range 70 {
		for _, b := range fills(count) {
			checkRead(t, b)
		}
		checkRead(t, bytes.Repeat([]byte{1}, count))
	}
	checkRead(t, nil)
	checkRead(t, make([]byte, impl.MaxHash))
}

// Numbers whose bytes differ from those of p - 1 or of p in one bit alone.
func TestFeReadEachBitCounts(t *testing.T) {
	for _, n := range []*big.Int{big.NewInt(0), plus(fieldPrime, -1), fieldPrime, plus(fieldPrime, 1)} {
		for bit := range 256 {
			checkRead(t, lowFirst(new(big.Int).SetBit(n, bit, n.Bit(bit)^1)))
		}
	}
}

// lendFe lends a number with spare room behind its limbs.
func lendFe(a impl.Fe) (impl.Fe, lender) {
	l := newRoomy(a.L)
	return impl.Fe{L: l.list()}, l
}

func answerOfFe(a impl.Fe) answer { return answer{ints: [][]int{a.L}} }

func memoryFes() []impl.Fe {
	numbers := []*big.Int{big.NewInt(0), big.NewInt(1), big.NewInt(2), big.NewInt(9), plus(fieldPrime, -1), fieldPrime, power2(255)}
	out := []impl.Fe{{}, {L: make([]int, 15)}, {L: make([]int, 17)}, {L: slices.Repeat([]int{-1}, fieldLimbs)}}
	for _, n := range append(numbers, anyNumbers(6)...) {
		out = append(out, feOf(n))
	}
	return out
}

func TestFieldJoinsMemory(t *testing.T) {
	for _, f := range fieldJoins() {
		for _, first := range memoryFes() {
			for _, second := range memoryFes() {
				a, lentA := lendFe(first)
				b, lentB := lendFe(second)
				checkAnswer(t, f.name, []lender{lentA, lentB}, func() answer {
					got, _ := f.join(a, b)
					return answerOfFe(got)
				})
			}
			a, lent := lendFe(first)
			checkAnswer(t, f.name+" of one twice", []lender{lent}, func() answer {
				got, _ := f.join(a, a)
				return answerOfFe(got)
			})
		}
	}
}

func TestFieldMemory(t *testing.T) {
	calls := []struct {
		name string
		call func(a impl.Fe) answer
	}{
		{"FeOk", func(a impl.Fe) answer { impl.FeOk(a); return answer{} }},
		{"FeInv", func(a impl.Fe) answer { got, _ := impl.FeInv(a); return answerOfFe(got) }},
		{"FeRoot", func(a impl.Fe) answer { got, _ := impl.FeRoot(a); return answerOfFe(got) }},
		{"FeBytes", func(a impl.Fe) answer { return answer{bytes: [][]byte{impl.FeBytes(a)}} }},
	}
	for _, c := range calls {
		for _, fe := range memoryFes() {
			a, lent := lendFe(fe)
			checkAnswer(t, c.name, []lender{lent}, func() answer { return c.call(a) })
		}
	}
	for _, n := range []int{math.MinInt, -1, 0, 1, 65536, math.MaxInt} {
		checkAnswer(t, "FeOf", nil, func() answer { got, _ := impl.FeOf(n); return answerOfFe(got) })
	}
	for _, count := range []int{0, 31, 32, 33} {
		for _, fill := range fills(count) {
			b := newRoomy(fill)
			checkAnswer(t, "FeRead", []lender{b}, func() answer {
				got, _ := impl.FeRead(b.list())
				return answerOfFe(got)
			})
		}
	}
}

// What lies behind a list's length plays no part: sixteen limbs, or 32 bytes, that are not all in it are none.
func TestFieldSpareRoom(t *testing.T) {
	for _, n := range append(edgeNumbers(), anyNumbers(20)...) {
		whole := feOf(n)
		short := impl.Fe{L: whole.L[:15]}
		roomy, _ := lendFe(whole)
		if impl.FeOk(short) || !impl.FeOk(roomy) || len(impl.FeBytes(short)) != 0 || !bytes.Equal(impl.FeBytes(roomy), lowFirst(n)) {
			t.Fatalf("%x, with spare room", n)
		}
		b := newRoomy(lowFirst(n)).list()
		checkRead(t, b)
		checkRead(t, b[:31])
		checkRead(t, b[:33])
	}
}
