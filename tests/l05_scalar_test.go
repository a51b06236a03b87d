package tests

import (
	"bytes"
	"crypto/sha512"
	"math"
	"math/big"
	"slices"
	"testing"

	"loop.example/g00412/impl"
)

const (
	scalarLimbs = 16
	scalarBytes = 32
	scalarWide  = 64
)

var groupOrder = new(big.Int).Add(power2(252), wholeOfDigits("27742317777372353535851937790883648493"))

type scalarJoin struct {
	name  string
	join  func(a, b impl.Sc) (impl.Sc, bool)
	whole func(z, a, b *big.Int) *big.Int
}

func scalarJoins() []scalarJoin {
	return []scalarJoin{
		{"ScAdd", impl.ScAdd, (*big.Int).Add},
		{"ScMul", impl.ScMul, (*big.Int).Mul},
	}
}

func wholeOfDigits(digits string) *big.Int {
	n, _ := new(big.Int).SetString(digits, 10)
	return n
}

func modOrder(n *big.Int) *big.Int { return new(big.Int).Mod(n, groupOrder) }

func belowOrder(n *big.Int) bool { return n.Sign() >= 0 && n.Cmp(groupOrder) < 0 }

// scOf does not use the program: it takes any number below 2^256, also those that are no multiplier.
func scOf(n *big.Int) impl.Sc { return impl.Sc{L: feOf(n).L} }

func equalSc(a, b impl.Sc) bool { return slices.Equal(a.L, b.L) }

func isZeroSc(a impl.Sc, ok bool) bool { return !ok && len(a.L) == 0 }

// wideLowFirst tells any number below 2^512 in 64 bytes.
func wideLowFirst(n *big.Int) []byte {
	b := n.FillBytes(make([]byte, scalarWide))
	slices.Reverse(b)
	return b
}

// anyWides are spread over all numbers of 64 bytes.
func anyWides(count int) []*big.Int {
	var out []*big.Int
	for i := range count {
		sum := sha512.Sum512([]byte{byte(i), byte(i >> 8), 5})
		out = append(out, wholeOf(sum[:]))
	}
	return out
}

func anyScalars(count int) []*big.Int {
	var out []*big.Int
	for _, n := range anyWides(count) {
		out = append(out, modOrder(n))
	}
	return out
}

// around tells the numbers that lie at most so far from each middle, where keep lets them be.
func around(middles []*big.Int, far int64, keep func(*big.Int) bool) []*big.Int {
	var out []*big.Int
	for _, middle := range middles {
		for by := -far; by <= far; by++ {
			if near := plus(middle, by); keep(near) {
				out = append(out, near)
			}
		}
	}
	return out
}

// edgeScalars lie around 0, q, half of q, 2^252, the powers of two where a limb ends, and where limbs are greatest.
func edgeScalars() []*big.Int {
	middles := []*big.Int{big.NewInt(0), groupOrder, new(big.Int).Rsh(groupOrder, 1), big.NewInt(math.MaxInt)}
	for _, bits := range []uint{125, 126, 250, 251, 252} {
		middles = append(middles, power2(bits), new(big.Int).Sub(groupOrder, power2(bits)))
	}
	for bits := uint(16); bits < 252; bits += 16 {
		middles = append(middles, power2(bits), new(big.Int).Sub(groupOrder, power2(bits)))
	}
	middles = append(middles, wholeOf(bytes.Repeat([]byte{0xff, 0xff, 0, 0}, 7)), wholeOf(append(bytes.Repeat([]byte{0xff}, 31), 0x0f)))
	return around(middles, 2, belowOrder)
}

// wrongScs are no multipliers, each for a reason of its own.
func wrongScs() []impl.Sc {
	wrong := []impl.Sc{{}, {L: []int{}}}
	for _, count := range []int{1, 15, 17, 31, 32, 1000} {
		wrong = append(wrong, impl.Sc{L: make([]int, count)}, impl.Sc{L: slices.Repeat([]int{1}, count)})
	}
	for by := range int64(21) {
		wrong = append(wrong, scOf(plus(groupOrder, by)))
	}
	for _, bits := range []uint{253, 254, 255} {
		wrong = append(wrong, scOf(plus(power2(bits), -1)), scOf(power2(bits)), scOf(plus(power2(bits), 1)))
	}
	wrong = append(wrong, scOf(new(big.Int).Lsh(groupOrder, 1)), scOf(plus(fieldPrime, -1)), scOf(plus(power2(256), -1)))
	for i := range scalarLimbs {
		for _, limb := range []int{math.MinInt, -65536, -65535, -1, 65536, 65537, 1 << 32, 1<<32 + 1, math.MaxInt} {
			a := scOf(big.NewInt(5))
			a.L[i] = limb
			wrong = append(wrong, a)
		}
	}
	return wrong
}

func checkScalarJoin(t *testing.T, f scalarJoin, a, b *big.Int) {
	t.Helper()
	want := scOf(modOrder(f.whole(new(big.Int), a, b)))
	for _, pair := range [][2]*big.Int{{a, b}, {b, a}} {
		got, ok := f.join(scOf(pair[0]), scOf(pair[1]))
		if !ok || !equalSc(got, want) {
			t.Fatalf("%s(%x, %x) = %x, %v, want %x", f.name, pair[0], pair[1], got.L, ok, want.L)
		}
	}
}

func checkScalarJoins(t *testing.T, a, b *big.Int) {
	t.Helper()
	for _, f := range scalarJoins() {
		checkScalarJoin(t, f, a, b)
	}
}

// checkScRead: bytes are read just if they are a multiplier's, and are that multiplier's bytes.
func checkScRead(t *testing.T, b []byte) {
	t.Helper()
	got, ok := impl.ScRead(b)
	if len(b) != scalarBytes || !belowOrder(wholeOf(b)) {
		if !isZeroSc(got, ok) {
			t.Fatalf("ScRead(%x) = %x, %v", b, got.L, ok)
		}
		return
	}
	if want := scOf(wholeOf(b)); !ok || !equalSc(got, want) || !impl.ScOk(got) {
		t.Fatalf("ScRead(%x) = %x, %v, want %x", b, got.L, ok, want.L)
	}
	if back := impl.ScBytes(got); !bytes.Equal(back, b) {
		t.Fatalf("ScBytes of what was read of %x = %x", b, back)
	}
}

func checkScBytes(t *testing.T, n *big.Int) {
	t.Helper()
	a := scOf(n)
	b := impl.ScBytes(a)
	if !bytes.Equal(b, lowFirst(n)) {
		t.Fatalf("ScBytes(%x) = %x, want %x", n, b, lowFirst(n))
	}
	if back, ok := impl.ScRead(b); !ok || !equalSc(back, a) {
		t.Fatalf("%x came back as %x, %v", n, back.L, ok)
	}
	checkScRead(t, b)
}

func checkScWide(t *testing.T, n *big.Int) {
	t.Helper()
	got, ok := impl.ScWide(wideLowFirst(n))
	if want := scOf(modOrder(n)); !ok || !equalSc(got, want) || !impl.ScOk(got) {
		t.Fatalf("ScWide of %x = %x, %v, want %x", n, got.L, ok, want.L)
	}
}

func isWide(n *big.Int) bool { return n.Sign() >= 0 && n.BitLen() <= 512 }

func TestScOk(t *testing.T) {
	for _, n := range slices.Concat(edgeScalars(), anyScalars(500)) {
		if !impl.ScOk(scOf(n)) {
			t.Errorf("%x is not ScOk", n)
		}
	}
	for _, a := range wrongScs() {
		if impl.ScOk(a) {
			t.Errorf("%x is ScOk", a.L)
		}
	}
	examples := []struct {
		n    *big.Int
		want bool
	}{
		{big.NewInt(0), true}, {big.NewInt(1), true}, {power2(252), true}, {plus(groupOrder, -1), true},
		{groupOrder, false}, {plus(groupOrder, 1), false}, {power2(253), false},
	}
	for _, e := range examples {
		if got := impl.ScOk(scOf(e.n)); got != e.want {
			t.Errorf("%x: ScOk %v", e.n, got)
		}
	}
}

// Of 0, q - 1 and q one limb is another: within its bounds it may leave a number below q, or none.
func TestScOkLimbs(t *testing.T) {
	for _, n := range []*big.Int{big.NewInt(0), plus(groupOrder, -1), groupOrder} {
		for i, limb := range scOf(groupOrder).L {
			for _, other := range []int{-1, 0, 1, limb - 1, limb, limb + 1, 4095, 4096, 4097, 32768, 65534, 65535, 65536} {
				a := scOf(n)
				a.L[i] = other
				within := other >= 0 && other <= 65535
				if got, want := impl.ScOk(a), within && belowOrder(wholeOfLimbs(a.L)); got != want {
					t.Errorf("%x but %d at %d: ScOk %v", n, other, i, got)
				}
			}
		}
	}
}

func wholeOfLimbs(l []int) *big.Int {
	sum := new(big.Int)
	for i, limb := range l {
		sum.Add(sum, new(big.Int).Lsh(big.NewInt(int64(limb)), uint(16*i)))
	}
	return sum
}

func TestScalarJoinsAtEdges(t *testing.T) {
	edges := edgeScalars()
	for i, a := range edges {
		for _, b := range edges[:i+1] {
			checkScalarJoins(t, a, b)
		}
	}
}

func TestScalarJoinsOfMany(t *testing.T) {
	numbers, edges := anyScalars(1500), edgeScalars()
	for i, a := range numbers {
		checkScalarJoins(t, a, a)
		checkScalarJoins(t, a, numbers[(i*7+1)%len(numbers)])
		checkScalarJoins(t, a, edges[i%len(edges)])
	}
}

// scalarEnds are where, as whole numbers, sums and products begin anew.
func scalarEnds() []*big.Int {
	twice := new(big.Int).Lsh(groupOrder, 1)
	ends := around([]*big.Int{groupOrder, power2(252), power2(253)}, 20, func(*big.Int) bool { return true })
	for by := int64(2); by <= 20; by++ {
		ends = append(ends, plus(twice, -by))
	}
	return ends
}

func TestScalarSumsNearTheEnd(t *testing.T) {
	for _, end := range scalarEnds() {
		for _, a := range append(edgeScalars(), anyScalars(20)...) {
			if b := new(big.Int).Sub(end, a); belowOrder(b) {
				checkScalarJoin(t, scalarJoins()[0], a, b)
			}
		}
	}
	minusOne := plus(groupOrder, -1)
	got, ok := impl.ScAdd(scOf(minusOne), scOf(minusOne))
	if !ok || !equalSc(got, scOf(plus(groupOrder, -2))) {
		t.Errorf("q - 1 and q - 1 = %x, %v", got.L, ok)
	}
	got, ok = impl.ScAdd(scOf(minusOne), scOf(big.NewInt(1)))
	if !ok || !equalSc(got, scOf(big.NewInt(0))) {
		t.Errorf("q - 1 and 1 = %x, %v", got.L, ok)
	}
}

// Products that are just such an end, or a number whose rest is one.
func TestScalarProductsNearTheEnd(t *testing.T) {
	mul := scalarJoins()[1]
	count := 0
	for _, end := range scalarEnds() {
		for factor := int64(1); factor < 400; factor++ {
			b, rest := new(big.Int).QuoRem(end, big.NewInt(factor), new(big.Int))
			if rest.Sign() == 0 && belowOrder(b) {
				checkScalarJoin(t, mul, big.NewInt(factor), b)
				count++
			}
		}
	}
	if count == 0 {
		t.Error("no product was tried")
	}
	for _, a := range append(edgeScalars(), anyScalars(60)...) {
		inverse := new(big.Int).ModInverse(a, groupOrder)
		if inverse == nil {
			continue
		}
		for _, rest := range []int64{0, 1, 2, -1, -2} {
			b := modOrder(new(big.Int).Mul(inverse, big.NewInt(rest)))
			got, ok := impl.ScMul(scOf(a), scOf(b))
			if want := scOf(modOrder(big.NewInt(rest))); !ok || !equalSc(got, want) {
				t.Fatalf("ScMul(%x, %x) = %x, %v, want %x", a, b, got.L, ok, want.L)
			}
		}
	}
}

func TestScalarPowersOfTwo(t *testing.T) {
	for i := range uint(253) {
		for j := range i + 1 {
			checkScalarJoin(t, scalarJoins()[1], power2(i), power2(j))
		}
		checkScalarJoins(t, power2(i), power2(i))
		checkScalarJoins(t, power2(i), plus(power2(252), -1))
		checkScalarJoins(t, power2(i), plus(groupOrder, -1))
	}
}

// Each sum and product of three is one, however it is come to; a product goes into a sum.
func TestScalarOrder(t *testing.T) {
	numbers := append(anyScalars(100), edgeScalars()...)
	add, mul := impl.ScAdd, impl.ScMul
	of := func(f func(a, b impl.Sc) (impl.Sc, bool), a, b impl.Sc) impl.Sc {
		got, ok := f(a, b)
		if !ok {
			t.Fatalf("%x and %x are refused", a.L, b.L)
		}
		return got
	}
	for i := range numbers {
		a, b, c := scOf(numbers[i]), scOf(numbers[(i*3+1)%len(numbers)]), scOf(numbers[(i*5+2)%len(numbers)])
		for _, f := range []func(a, b impl.Sc) (impl.Sc, bool){add, mul} {
			if !equalSc(of(f, a, b), of(f, b, a)) || !equalSc(of(f, of(f, a, b), c), of(f, a, of(f, b, c))) {
				t.Fatalf("the order counts: %x, %x, %x", a.L, b.L, c.L)
			}
		}
		if !equalSc(of(mul, a, of(add, b, c)), of(add, of(mul, a, b), of(mul, a, c))) {
			t.Fatalf("a product of a sum: %x, %x, %x", a.L, b.L, c.L)
		}
	}
}

func TestScalarWrong(t *testing.T) {
	fine := []impl.Sc{scOf(big.NewInt(0)), scOf(big.NewInt(1)), scOf(plus(groupOrder, -1))}
	for _, wrong := range wrongScs() {
		for _, f := range scalarJoins() {
			for _, other := range append(fine, wrong, impl.Sc{}) {
				for _, pair := range [][2]impl.Sc{{wrong, other}, {other, wrong}} {
					if got, ok := f.join(pair[0], pair[1]); !isZeroSc(got, ok) {
						t.Errorf("%s(%x, %x) = %x, %v", f.name, pair[0].L, pair[1].L, got.L, ok)
					}
				}
			}
		}
		if got := impl.ScBytes(wrong); len(got) != 0 {
			t.Errorf("ScBytes(%x) = %x", wrong.L, got)
		}
	}
}

func TestScBytes(t *testing.T) {
	for _, n := range slices.Concat(edgeScalars(), anyScalars(1000)) {
		checkScBytes(t, n)
	}
	for bit := range uint(252) {
		checkScBytes(t, power2(bit))
		checkScBytes(t, new(big.Int).Sub(plus(groupOrder, -1), power2(bit)))
	}
	last, _ := impl.HexRead([]byte("ecd3f55c1a631258d69cf7a2def9de1400000000000000000000000000000010"))
	if got := impl.ScBytes(scOf(plus(groupOrder, -1))); !bytes.Equal(got, last) {
		t.Errorf("ScBytes(q - 1) = %x, want %x", got, last)
	}
}

func TestScRead(t *testing.T) {
	middles := []*big.Int{big.NewInt(0), groupOrder, new(big.Int).Lsh(groupOrder, 1), power2(252), power2(253), power2(254), power2(255), fieldPrime, power2(256)}
	for _, n := range around(middles, 20, func(n *big.Int) bool { return n.Sign() >= 0 && n.BitLen() <= 256 }) {
		checkScRead(t, lowFirst(n))
	}
	for _, n := range slices.Concat(edgeScalars(), anyScalars(300)) {
		checkScRead(t, lowFirst(n))
		for bit := 253; bit < 256; bit++ {
			checkScRead(t, lowFirst(new(big.Int).SetBit(n, bit, 1)))
		}
	}
	for count := range 70 {
		for _, b := range fills(count) {
			checkScRead(t, b)
		}
		checkScRead(t, append([]byte{1}, make([]byte, count)...))
	}
	checkScRead(t, nil)
	checkScRead(t, make([]byte, impl.MaxHash))
}

// Numbers whose bytes differ from those of 0, q - 1, q or q + 1 in one bit alone.
func TestScReadEachBitCounts(t *testing.T) {
	for _, n := range []*big.Int{big.NewInt(0), plus(groupOrder, -1), groupOrder, plus(groupOrder, 1)} {
		for bit := range 256 {
			checkScRead(t, lowFirst(new(big.Int).SetBit(n, bit, n.Bit(bit)^1)))
		}
	}
}

func TestScWide(t *testing.T) {
	for _, n := range slices.Concat(edgeScalars(), anyScalars(200), anyWides(3000)) {
		checkScWide(t, n)
	}
	for bit := range uint(512) {
		for _, n := range around([]*big.Int{power2(bit)}, 1, isWide) {
			checkScWide(t, n)
			checkScWide(t, new(big.Int).Sub(plus(power2(512), -1), n))
		}
	}
	checkScWide(t, plus(power2(512), -1))
	for _, pattern := range [][]byte{{0xff, 0xff, 0, 0}, {0, 0, 0xff, 0xff}, {0xff, 0x0f}, {0, 0x10}, {0x55}, {0xaa}} {
		checkScWide(t, wholeOf(bytes.Repeat(pattern, scalarWide/len(pattern))))
	}
}

// Multiples of q, and of 2^252 below it, where the rest begins anew.
func TestScWideOfMultiples(t *testing.T) {
	greatest := new(big.Int).Quo(plus(power2(512), -1), groupOrder)
	counts := []*big.Int{greatest, new(big.Int).Rsh(greatest, 1)}
	for count := range int64(40) {
		counts = append(counts, big.NewInt(count), plus(greatest, -count))
	}
	for bits := range uint(260) {
		counts = append(counts, power2(bits), plus(power2(bits), -1), plus(power2(bits), 1))
	}
	for _, n := range append(edgeScalars(), anyScalars(200)...) {
		counts = append(counts, n)
	}
	for _, count := range counts {
		for _, step := range []*big.Int{groupOrder, power2(252)} {
			for _, n := range around([]*big.Int{new(big.Int).Mul(count, step)}, 2, isWide) {
				checkScWide(t, n)
			}
		}
	}
}

func TestScWideExamples(t *testing.T) {
	twice := new(big.Int).Lsh(groupOrder, 1)
	examples := []struct{ n, want *big.Int }{
		{big.NewInt(0), big.NewInt(0)},
		{big.NewInt(1), big.NewInt(1)},
		{plus(groupOrder, -1), plus(groupOrder, -1)},
		{groupOrder, big.NewInt(0)},
		{plus(groupOrder, 1), big.NewInt(1)},
		{plus(twice, -1), plus(groupOrder, -1)},
		{twice, big.NewInt(0)},
		{plus(twice, 1), big.NewInt(1)},
		{new(big.Int).Mul(groupOrder, groupOrder), big.NewInt(0)},
	}
	for _, e := range examples {
		if got, ok := impl.ScWide(wideLowFirst(e.n)); !ok || !equalSc(got, scOf(e.want)) {
			t.Errorf("ScWide of %x = %x, %v, want %x", e.n, got.L, ok, e.want)
		}
	}
}

// 64 bytes are their lower half, and the upper one times 2^256.
func TestScWideOfHalves(t *testing.T) {
	shift := scOf(modOrder(power2(256)))
	for _, n := range anyScalars(200) {
		low, high := lowFirst(n), lowFirst(modOrder(new(big.Int).Mul(n, n)))
		a, _ := impl.ScRead(low)
		b, _ := impl.ScRead(high)
		upper, _ := impl.ScMul(b, shift)
		want, _ := impl.ScAdd(a, upper)
		if got, ok := impl.ScWide(slices.Concat(low, high)); !ok || !equalSc(got, want) {
			t.Fatalf("ScWide of %x and %x = %x, %v, want %x", low, high, got.L, ok, want.L)
		}
	}
}

func TestScWideWrong(t *testing.T) {
	for count := range 140 {
		for _, b := range fills(count) {
			if got, ok := impl.ScWide(b); count != scalarWide && !isZeroSc(got, ok) || count == scalarWide && !ok {
				t.Errorf("ScWide of %d bytes = %x, %v", count, got.L, ok)
			}
		}
	}
	if got, ok := impl.ScWide(nil); !isZeroSc(got, ok) {
		t.Errorf("ScWide of nothing = %x, %v", got.L, ok)
	}
	if got, ok := impl.ScWide(make([]byte, impl.MaxHash)); !isZeroSc(got, ok) {
		t.Errorf("ScWide of many = %x, %v", got.L, ok)
	}
}

// lendSc lends a number with spare room behind its limbs.
func lendSc(a impl.Sc) (impl.Sc, lender) {
	l := newRoomy(a.L)
	return impl.Sc{L: l.list()}, l
}

func answerOfSc(a impl.Sc) answer { return answer{ints: [][]int{a.L}} }

func memoryScs() []impl.Sc {
	numbers := []*big.Int{big.NewInt(0), big.NewInt(1), power2(252), plus(groupOrder, -1), groupOrder, power2(253)}
	out := []impl.Sc{{}, {L: make([]int, 15)}, {L: make([]int, 17)}, {L: slices.Repeat([]int{-1}, scalarLimbs)}}
	for _, n := range append(numbers, anyScalars(6)...) {
		out = append(out, scOf(n))
	}
	return out
}

func TestScalarJoinsMemory(t *testing.T) {
	for _, f := range scalarJoins() {
		for _, first := range memoryScs() {
			for _, second := range memoryScs() {
				a, lentA := lendSc(first)
				b, lentB := lendSc(second)
				checkAnswer(t, f.name, []lender{lentA, lentB}, func() answer {
					got, _ := f.join(a, b)
					return answerOfSc(got)
				})
			}
			a, lent := lendSc(first)
			checkAnswer(t, f.name+" of one twice", []lender{lent}, func() answer {
				got, _ := f.join(a, a)
				return answerOfSc(got)
			})
		}
	}
}

func TestScalarMemory(t *testing.T) {
	for _, sc := range memoryScs() {
		a, lent := lendSc(sc)
		checkAnswer(t, "ScOk", []lender{lent}, func() answer { impl.ScOk(a); return answer{} })
		a, lent = lendSc(sc)
		checkAnswer(t, "ScBytes", []lender{lent}, func() answer { return answer{bytes: [][]byte{impl.ScBytes(a)}} })
	}
	reads := []struct {
		name string
		read func(b []byte) (impl.Sc, bool)
	}{{"ScRead", impl.ScRead}, {"ScWide", impl.ScWide}}
	for _, r := range reads {
		for _, count := range []int{0, 31, 32, 33, 63, 64, 65} {
			for _, fill := range append(fills(count), append(make([]byte, count), 1)) {
				b := newRoomy(fill)
				checkAnswer(t, r.name, []lender{b}, func() answer {
					got, _ := r.read(b.list())
					return answerOfSc(got)
				})
			}
		}
	}
}

// What lies behind a list's length plays no part: sixteen limbs, or 32 or 64 bytes, that are not all in it are none.
func TestScalarSpareRoom(t *testing.T) {
	for _, n := range append(edgeScalars(), anyScalars(20)...) {
		whole := scOf(n)
		short := impl.Sc{L: whole.L[:15]}
		roomy, _ := lendSc(whole)
		if impl.ScOk(short) || !impl.ScOk(roomy) || len(impl.ScBytes(short)) != 0 || !bytes.Equal(impl.ScBytes(roomy), lowFirst(n)) {
			t.Fatalf("%x, with spare room", n)
		}
		b := newRoomy(lowFirst(n)).list()
		for _, count := range []int{31, 32, 33} {
			checkScRead(t, b[:count])
		}
		wide := newRoomy(wideLowFirst(n)).list()
		for _, count := range []int{63, 64, 65} {
			got, ok := impl.ScWide(wide[:count])
			if count == scalarWide && !equalSc(got, whole) || count != scalarWide && !isZeroSc(got, ok) {
				t.Fatalf("ScWide of the first %d of %x = %x, %v", count, n, got.L, ok)
			}
		}
	}
}
