package tests

import (
	"bytes"
	"crypto/ed25519"
	"crypto/sha256"
	"crypto/sha512"
	"math/big"
	"slices"
	"testing"

	"loop.example/g00412/impl"
)

const (
	pointBytes  = 32
	pointMark   = 255
	smallPoints = 8
)

// Bytes of points as written out elsewhere: the base, twice the base, and two points of order 8.
const (
	baseDigits      = "5866666666666666666666666666666666666666666666666666666666666666"
	twiceBaseDigits = "c9a3f86aae465f0e56513864510f3997561fa2c9e85ea21dc2292309f3cd6022"
	eightDigits     = "26e8958fc2b227b045c3f489f2ef98f0d5dfac05d3c63339b13802886d53fc05"
	otherEight      = "c7176a703d4dd84fba3c0b760d10670f2a2053fa2c39ccc64ec7fd7792ac037a"
)

// wholePoint is a point in whole numbers modulo p, which the tests add by the chapter's own formula.
type wholePoint struct{ x, y *big.Int }

func (p wholePoint) String() string { return p.x.Text(16) + " " + p.y.Text(16) }

var curveD = overPrime(big.NewInt(-121665), big.NewInt(121666))

func overPrime(a, b *big.Int) *big.Int {
	return modPrime(new(big.Int).Mul(a, new(big.Int).ModInverse(modPrime(b), fieldPrime)))
}

func timesPrime(factors ...*big.Int) *big.Int {
	product := big.NewInt(1)
	for _, n := range factors {
		product = modPrime(product.Mul(product, n))
	}
	return product
}

func sumOf(a, b *big.Int) *big.Int { return new(big.Int).Add(a, b) }

func differenceOf(a, b *big.Int) *big.Int { return new(big.Int).Sub(a, b) }

func wholeZero() wholePoint { return wholePoint{big.NewInt(0), big.NewInt(1)} }

// wholeBase takes y for 4 / 5 and finds the even x beside it.
func wholeBase() wholePoint {
	p, _ := wholeBeside(overPrime(big.NewInt(4), big.NewInt(5)), 0)
	return p
}

func onWholeCurve(p wholePoint) bool {
	xx, yy := timesPrime(p.x, p.x), timesPrime(p.y, p.y)
	return modPrime(differenceOf(yy, xx)).Cmp(modPrime(plus(timesPrime(curveD, xx, yy), 1))) == 0
}

func sumOfPoints(a, b wholePoint) wholePoint {
	one, product := big.NewInt(1), timesPrime(curveD, a.x, b.x, a.y, b.y)
	return wholePoint{
		x: overPrime(sumOf(timesPrime(a.x, b.y), timesPrime(a.y, b.x)), sumOf(one, product)),
		y: overPrime(sumOf(timesPrime(a.y, b.y), timesPrime(a.x, b.x)), differenceOf(one, product)),
	}
}

func oppositeOf(a wholePoint) wholePoint { return wholePoint{modPrime(new(big.Int).Neg(a.x)), a.y} }

func timesPoint(a wholePoint, k *big.Int) wholePoint {
	sum := wholeZero()
	for i := k.BitLen() - 1; i >= 0; i-- {
		sum = sumOfPoints(sum, sum)
		if k.Bit(i) == 1 {
			sum = sumOfPoints(sum, a)
		}
	}
	return sum
}

// wholeBeside finds the x beside y whose lowest bit is the one that is asked for.
func wholeBeside(y *big.Int, lowest uint) (wholePoint, bool) {
	yy := timesPrime(y, y)
	x := new(big.Int).ModSqrt(overPrime(plus(yy, -1), plus(timesPrime(curveD, yy), 1)), fieldPrime)
	if x == nil {
		return wholePoint{}, false
	}
	if x.Bit(0) != lowest {
		x = modPrime(x.Neg(x))
	}
	return wholePoint{x, y}, x.Bit(0) == lowest
}

func wholeBytes(p wholePoint) []byte {
	return lowFirst(new(big.Int).SetBit(p.y, pointMark, p.x.Bit(0)))
}

func wholeRead(b []byte) (wholePoint, bool) {
	if len(b) != pointBytes {
		return wholePoint{}, false
	}
	n := wholeOf(b)
	y := new(big.Int).SetBit(n, pointMark, 0)
	if y.Cmp(fieldPrime) >= 0 {
		return wholePoint{}, false
	}
	return wholeBeside(y, n.Bit(pointMark))
}

// ptOf does not use the program: it takes any two numbers below 2^256, also those that are no point.
func ptOf(p wholePoint) impl.Pt { return impl.Pt{X: feOf(p.x), Y: feOf(p.y)} }

func equalPt(a, b impl.Pt) bool { return equalFe(a.X, b.X) && equalFe(a.Y, b.Y) }

func isPt(a impl.Pt, ok bool, want wholePoint) bool { return ok && equalPt(a, ptOf(want)) }

func isZeroPt(a impl.Pt, ok bool) bool { return !ok && len(a.X.L) == 0 && len(a.Y.L) == 0 }

// anyPoints are spread over the whole curve: most of them are no multiple of the base.
func anyPoints(count int) []wholePoint {
	var out []wholePoint
	for i := 0; len(out) < count; i++ {
		sum := sha256.Sum256([]byte{byte(i), byte(i >> 8), 6})
		if p, ok := wholeRead(sum[:]); ok {
			out = append(out, p)
		}
	}
	return out
}

// baseMultiples are points of the order q: 1, 2, 3 .. times the base, and the same short of q.
func baseMultiples(count int) []wholePoint {
	sum := wholeBase()
	var out []wholePoint
	for range count {
		out = append(out, sum, oppositeOf(sum))
		sum = sumOfPoints(sum, wholeBase())
	}
	return out
}

// pointsOfSmallOrder has at the place i the sum of i times a point of the order 8: that is left of a point taken q times.
func pointsOfSmallOrder() []wholePoint {
	for _, p := range anyPoints(100) {
		eight := timesPoint(p, groupOrder)
		if timesPoint(eight, big.NewInt(4)).y.Cmp(plus(fieldPrime, -1)) == 0 {
			out := []wholePoint{wholeZero()}
			for i := range smallPoints - 1 {
				out = append(out, sumOfPoints(out[i], eight))
			}
			return out
		}
	}
	return nil
}

// edgePoints have small order, are the base with such a point, or have a y at either end of the field.
func edgePoints() []wholePoint {
	var out []wholePoint
	for _, small := range pointsOfSmallOrder() {
		out = append(out, small, sumOfPoints(wholeBase(), small), sumOfPoints(small, oppositeOf(wholeBase())))
	}
	for by := int64(2); by < 12; by++ {
		for _, y := range []*big.Int{big.NewInt(by), plus(fieldPrime, -by)} {
			for lowest := range uint(2) {
				if p, ok := wholeBeside(y, lowest); ok {
					out = append(out, p)
				}
			}
		}
	}
	return out
}

func manyPoints(count int) []wholePoint {
	return slices.Concat(edgePoints(), baseMultiples(count), anyPoints(count))
}

// noPoints are two numbers of the field each, but not on the curve.
func noPoints() []wholePoint {
	zero, one := big.NewInt(0), big.NewInt(1)
	out := []wholePoint{{zero, zero}, {one, zero}, {one, one}, {plus(fieldPrime, -1), zero}, {one, plus(fieldPrime, -1)}}
	for _, p := range manyPoints(10) {
		out = append(out, wholePoint{p.y, p.x}, wholePoint{modPrime(plus(p.x, 1)), p.y}, wholePoint{p.x, modPrime(plus(p.y, 1))})
		out = append(out, wholePoint{modPrime(plus(p.x, -1)), p.y}, wholePoint{p.x, modPrime(plus(p.y, -1))}, wholePoint{p.x, p.x}, wholePoint{p.y, p.y})
	}
	numbers := anyNumbers(100)
	for i, n := range numbers {
		out = append(out, wholePoint{n, numbers[(i+1)%len(numbers)]})
	}
	return slices.DeleteFunc(out, onWholeCurve)
}

// wrongPts are no points: a number is none of the field's, also where it is a point's modulo p, or it is not on the curve.
func wrongPts() []impl.Pt {
	out := []impl.Pt{{}, {X: impl.Fe{L: []int{}}, Y: impl.Fe{L: []int{}}}}
	zero, base := ptOf(wholeZero()), ptOf(wholeBase())
	for _, wrong := range wrongFes() {
		out = append(out, impl.Pt{X: wrong, Y: zero.Y}, impl.Pt{X: zero.X, Y: wrong}, impl.Pt{X: wrong, Y: wrong})
		out = append(out, impl.Pt{X: wrong, Y: base.Y}, impl.Pt{X: base.X, Y: wrong})
	}
	for _, p := range manyPoints(4) {
		out = append(out, ptOf(wholePoint{sumOf(p.x, fieldPrime), p.y}), ptOf(wholePoint{p.x, sumOf(p.y, fieldPrime)}))
		out = append(out, impl.Pt{X: feOf(p.x)}, impl.Pt{Y: feOf(p.y)})
		for _, x := range toldOtherwise(feOf(p.x)) {
			out = append(out, impl.Pt{X: x, Y: feOf(p.y)})
		}
		for _, y := range toldOtherwise(feOf(p.y)) {
			out = append(out, impl.Pt{X: feOf(p.x), Y: y})
		}
	}
	for _, p := range noPoints() {
		out = append(out, ptOf(p))
	}
	return out
}

// toldOtherwise are the same number, with a limb out of its bounds or one limb more, and another one with such a limb.
func toldOtherwise(a impl.Fe) []impl.Fe {
	out := []impl.Fe{{L: append(slices.Clone(a.L), 0)}}
	for _, by := range []int{-1, 1} {
		l := slices.Clone(a.L)
		l[0] += 65536 * by
		l[1] -= by
		out = append(out, impl.Fe{L: l})
	}
	for _, limb := range []int{-1, 65536} {
		l := slices.Clone(a.L)
		l[7] = limb
		out = append(out, impl.Fe{L: l})
	}
	return out
}

func checkPointSum(t *testing.T, a, b wholePoint) {
	t.Helper()
	want := sumOfPoints(a, b)
	for _, pair := range [][2]wholePoint{{a, b}, {b, a}} {
		got, ok := impl.PtAdd(ptOf(pair[0]), ptOf(pair[1]))
		if !isPt(got, ok, want) || !impl.PtOk(got) {
			t.Fatalf("PtAdd(%v, %v) = %x, %v, want %v", pair[0], pair[1], got, ok, want)
		}
	}
}

func checkPointMany(t *testing.T, a wholePoint, k *big.Int, want wholePoint) {
	t.Helper()
	if got, ok := impl.PtMul(ptOf(a), scOf(k)); !isPt(got, ok, want) || !impl.PtOk(got) {
		t.Fatalf("PtMul(%v, %x) = %x, %v, want %v", a, k, got, ok, want)
	}
}

// checkPtRead: bytes are read just if they are a point's, and are that point's bytes.
func checkPtRead(t *testing.T, b []byte) {
	t.Helper()
	got, ok := impl.PtRead(b)
	want, fine := wholeRead(b)
	if !fine {
		if !isZeroPt(got, ok) {
			t.Fatalf("PtRead(%x) = %x, %v", b, got, ok)
		}
		return
	}
	if !isPt(got, ok, want) || !impl.PtOk(got) {
		t.Fatalf("PtRead(%x) = %x, %v, want %v", b, got, ok, want)
	}
	if back := impl.PtBytes(got); !bytes.Equal(back, b) {
		t.Fatalf("PtBytes of what was read of %x = %x", b, back)
	}
}

func checkPtBytes(t *testing.T, p wholePoint) {
	t.Helper()
	b := impl.PtBytes(ptOf(p))
	if want := wholeBytes(p); !bytes.Equal(b, want) {
		t.Fatalf("PtBytes(%v) = %x, want %x", p, b, want)
	}
	if back, ok := impl.PtRead(b); !isPt(back, ok, p) {
		t.Fatalf("%v came back as %x, %v", p, back, ok)
	}
}

// The tests' own points are what they are taken for.
func TestPointsOfTheTests(t *testing.T) {
	small := pointsOfSmallOrder()
	if len(small) != smallPoints {
		t.Fatalf("%d points of small order", len(small))
	}
	for i, want := range []int{1, 8, 4, 8, 2, 8, 4, 8} {
		order, sum := 1, small[i]
		for ; sum.x.Sign() != 0 || sum.y.Cmp(big.NewInt(1)) != 0; order++ {
			sum = sumOfPoints(sum, small[i])
		}
		if order != want {
			t.Errorf("%v has the order %d, want %d", small[i], order, want)
		}
	}
	for _, p := range manyPoints(20) {
		if !onWholeCurve(p) {
			t.Errorf("%v is not on the curve", p)
		}
	}
	if end := timesPoint(wholeBase(), groupOrder); end.x.Sign() != 0 || end.y.Cmp(big.NewInt(1)) != 0 {
		t.Errorf("q times the base = %v", end)
	}
}

func TestPtOk(t *testing.T) {
	for _, p := range manyPoints(100) {
		if !impl.PtOk(ptOf(p)) {
			t.Errorf("%v is not PtOk", p)
		}
	}
	for _, p := range wrongPts() {
		if impl.PtOk(p) {
			t.Errorf("%x is PtOk", p)
		}
	}
}

func TestPtZeroAndBase(t *testing.T) {
	zero, base := impl.PtZero(), impl.PtBase()
	if !isPt(zero, impl.PtOk(zero), wholeZero()) {
		t.Errorf("PtZero = %x", zero)
	}
	if !isPt(base, impl.PtOk(base), wholeBase()) || base.X.L[0]%2 != 0 {
		t.Errorf("PtBase = %x", base)
	}
	five, _ := impl.FeOf(5)
	if four, ok := impl.FeMul(base.Y, five); !ok || !equalFe(four, feOf(big.NewInt(4))) {
		t.Errorf("five times the base's y = %x", four.L)
	}
}

func TestPtAddAtEdges(t *testing.T) {
	edges := append(edgePoints(), baseMultiples(3)...)
	for i, a := range edges {
		for _, b := range edges[:i+1] {
			checkPointSum(t, a, b)
		}
	}
}

func TestPtAddOfMany(t *testing.T) {
	points := manyPoints(60)
	for i, a := range points {
		checkPointSum(t, a, points[(i*7+1)%len(points)])
		checkPointSum(t, a, points[(i*11+5)%len(points)])
	}
}

// A sum of three is one, in all their orders and bracketings.
func TestPtAddOrder(t *testing.T) {
	points := manyPoints(12)
	add := func(a, b impl.Pt) impl.Pt {
		sum, ok := impl.PtAdd(a, b)
		if !ok {
			t.Fatalf("%x and %x are refused", a, b)
		}
		return sum
	}
	for i, first := range points {
		second, third := points[(i*3+1)%len(points)], points[(i*5+2)%len(points)]
		want := ptOf(sumOfPoints(sumOfPoints(first, second), third))
		three := []impl.Pt{ptOf(first), ptOf(second), ptOf(third)}
		for _, order := range [][3]int{{0, 1, 2}, {0, 2, 1}, {1, 0, 2}, {1, 2, 0}, {2, 0, 1}, {2, 1, 0}} {
			a, b, c := three[order[0]], three[order[1]], three[order[2]]
			if left, right := add(add(a, b), c), add(a, add(b, c)); !equalPt(left, want) || !equalPt(right, want) {
				t.Fatalf("the sum of %x = %x or %x, want %x", three, left, right, want)
			}
		}
	}
}

func TestPtAddZero(t *testing.T) {
	for _, p := range manyPoints(30) {
		for _, pair := range [][2]impl.Pt{{ptOf(p), impl.PtZero()}, {impl.PtZero(), ptOf(p)}} {
			if got, ok := impl.PtAdd(pair[0], pair[1]); !isPt(got, ok, p) {
				t.Fatalf("%v and the zero = %x, %v", p, got, ok)
			}
		}
	}
}

func TestPtNeg(t *testing.T) {
	for _, p := range manyPoints(40) {
		a := ptOf(p)
		opposite, ok := impl.PtNeg(a)
		if !isPt(opposite, ok, oppositeOf(p)) || !impl.PtOk(opposite) {
			t.Fatalf("PtNeg(%v) = %x, %v", p, opposite, ok)
		}
		for _, pair := range [][2]impl.Pt{{a, opposite}, {opposite, a}} {
			if got, ok := impl.PtAdd(pair[0], pair[1]); !isPt(got, ok, wholeZero()) {
				t.Fatalf("%v and its opposite = %x, %v", p, got, ok)
			}
		}
		if back, ok := impl.PtNeg(opposite); !isPt(back, ok, p) {
			t.Fatalf("the opposite of the opposite of %v = %x, %v", p, back, ok)
		}
	}
}

func TestPtTwice(t *testing.T) {
	for _, p := range manyPoints(60) {
		want := sumOfPoints(p, p)
		if got, ok := impl.PtTwice(ptOf(p)); !isPt(got, ok, want) || !impl.PtOk(got) {
			t.Fatalf("PtTwice(%v) = %x, %v, want %v", p, got, ok, want)
		}
		if got, ok := impl.PtAdd(ptOf(p), ptOf(p)); !isPt(got, ok, want) {
			t.Fatalf("%v and itself = %x, %v, want %v", p, got, ok, want)
		}
	}
}

// k points, added one by one, against k times the sum.
func TestPtMulSmall(t *testing.T) {
	for _, p := range append(edgePoints(), anyPoints(4)...) {
		sum := wholeZero()
		for k := range int64(20) {
			checkPointMany(t, p, big.NewInt(k), sum)
			sum = sumOfPoints(sum, p)
		}
	}
	sum, base := wholeZero(), wholeBase()
	for k := range int64(260) {
		checkPointMany(t, base, big.NewInt(k), sum)
		sum = sumOfPoints(sum, base)
	}
}

func TestPtMulOneBit(t *testing.T) {
	eight := pointsOfSmallOrder()[1]
	for _, p := range []wholePoint{wholeBase(), eight, sumOfPoints(wholeBase(), eight), anyPoints(1)[0]} {
		sum := p
		for bit := range uint(253) {
			checkPointMany(t, p, power2(bit), sum)
			sum = sumOfPoints(sum, sum)
		}
	}
}

func TestPtMulAtEdges(t *testing.T) {
	base := wholeBase()
	points := []wholePoint{base, sumOfPoints(base, pointsOfSmallOrder()[3]), anyPoints(1)[0]}
	for _, k := range slices.Concat(edgeScalars(), anyScalars(20)) {
		for _, p := range points {
			checkPointMany(t, p, k, timesPoint(p, k))
		}
	}
}

func TestPtMulNearTheOrder(t *testing.T) {
	for _, p := range append(baseMultiples(6), wholeZero()) {
		checkPointMany(t, p, plus(groupOrder, -1), oppositeOf(p))
		checkPointMany(t, p, plus(groupOrder, -2), oppositeOf(sumOfPoints(p, p)))
	}
	last, _ := impl.PtMul(impl.PtBase(), scOf(plus(groupOrder, -1)))
	for _, pair := range [][2]impl.Pt{{last, impl.PtBase()}, {impl.PtBase(), last}} {
		if got, ok := impl.PtAdd(pair[0], pair[1]); !isPt(got, ok, wholeZero()) {
			t.Errorf("q - 1 times the base, and the base = %x, %v", got, ok)
		}
	}
}

// q times a point with a part of small order is not the zero: the rest of q, which is 5 modulo 8, counts there.
func TestPtMulOrderOfSmallPoints(t *testing.T) {
	small := pointsOfSmallOrder()
	for i, part := range small {
		for _, p := range []wholePoint{part, sumOfPoints(wholeBase(), part)} {
			many, _ := impl.PtMul(ptOf(p), scOf(plus(groupOrder, -1)))
			got, ok := impl.PtAdd(many, ptOf(p))
			if want := small[i*5%smallPoints]; !isPt(got, ok, want) || i != 0 && equalPt(got, impl.PtZero()) {
				t.Errorf("q times %v = %x, %v, want %v", p, got, ok, want)
			}
		}
	}
}

// Of a point of small order only the rest of the multiplier counts.
func TestPtMulSmallOrder(t *testing.T) {
	small := pointsOfSmallOrder()
	for i, p := range small {
		for _, k := range slices.Concat(anyScalars(12), []*big.Int{power2(252), plus(groupOrder, -1), plus(groupOrder, -5)}) {
			rest := int(new(big.Int).Mod(k, big.NewInt(smallPoints)).Int64())
			checkPointMany(t, p, k, small[i*rest%smallPoints])
		}
	}
}

// Multipliers of points that q times are the zero, also such as pass q together.
func scalarPairs() [][2]*big.Int {
	last := plus(groupOrder, -1)
	pairs := [][2]*big.Int{{last, last}, {last, big.NewInt(1)}, {last, big.NewInt(2)}, {big.NewInt(0), last}, {power2(252), power2(252)}, {power2(251), power2(251)}}
	numbers := anyScalars(40)
	for i, k := range numbers {
		pairs = append(pairs, [2]*big.Int{k, numbers[(i*3+1)%len(numbers)]}, [2]*big.Int{k, differenceOf(groupOrder, k)}, [2]*big.Int{k, modOrder(differenceOf(plus(groupOrder, 1), k))})
	}
	return pairs
}

func TestPtMulSumsOfMultipliers(t *testing.T) {
	passed, points := 0, baseMultiples(4)
	for i, pair := range scalarPairs() {
		a := ptOf(points[i%len(points)])
		j, k := scOf(pair[0]), scOf(pair[1])
		first, _ := impl.PtMul(a, j)
		second, _ := impl.PtMul(a, k)
		sum, _ := impl.PtAdd(first, second)
		both, _ := impl.ScAdd(j, k)
		if got, ok := impl.PtMul(a, both); !ok || !equalPt(got, sum) {
			t.Fatalf("%x and %x times %x = %x, %v, want %x", pair[0], pair[1], a, got, ok, sum)
		}
		product, _ := impl.ScMul(j, k)
		again, _ := impl.PtMul(first, k)
		if got, ok := impl.PtMul(a, product); !ok || !equalPt(got, again) {
			t.Fatalf("%x times %x times %x = %x, %v, want %x", pair[0], pair[1], a, got, ok, again)
		}
		if sumOf(pair[0], pair[1]).Cmp(groupOrder) >= 0 {
			passed++
		}
	}
	if passed < 20 {
		t.Errorf("only %d pairs pass q", passed)
	}
}

// Where the multipliers stay below q together, any point will do; and a sum of points is taken as its parts are.
func TestPtMulSumsOfAnyPoints(t *testing.T) {
	points, numbers := append(edgePoints(), anyPoints(10)...), anyScalars(30)
	for i, p := range points {
		a, b := ptOf(p), ptOf(points[(i*3+1)%len(points)])
		j := new(big.Int).Rsh(numbers[i%len(numbers)], 2)
		k := new(big.Int).Rsh(numbers[(i+7)%len(numbers)], 2)
		first, _ := impl.PtMul(a, scOf(j))
		second, _ := impl.PtMul(a, scOf(k))
		want, _ := impl.PtAdd(first, second)
		if got, ok := impl.PtMul(a, scOf(sumOf(j, k))); !ok || !equalPt(got, want) {
			t.Fatalf("%x and %x times %v = %x, %v, want %x", j, k, p, got, ok, want)
		}
		sum, _ := impl.PtAdd(a, b)
		other, _ := impl.PtMul(b, scOf(j))
		want, _ = impl.PtAdd(first, other)
		if got, ok := impl.PtMul(sum, scOf(j)); !ok || !equalPt(got, want) {
			t.Fatalf("%x times %x and %x = %x, %v, want %x", j, a, b, got, ok, want)
		}
	}
}

// The library's keys are the base, taken as often as a sum of the seed tells.
func TestPtMulAgainstKeys(t *testing.T) {
	for i := range 100 {
		seed := bytes.Repeat([]byte{byte(i)}, ed25519.SeedSize)
		sum := sha512.Sum512(seed)
		wide := make([]byte, scalarWide)
		copy(wide, sum[:pointBytes])
		wide[0] &= 248
		wide[31] = wide[31]&127 | 64
		k, _ := impl.ScWide(wide)
		got, ok := impl.PtMul(impl.PtBase(), k)
		key := ed25519.NewKeyFromSeed(seed)[ed25519.SeedSize:]
		if !ok || !bytes.Equal(impl.PtBytes(got), key) {
			t.Fatalf("the key of %x = %x, %v, want %x", seed, impl.PtBytes(got), ok, key)
		}
		checkPtRead(t, key)
	}
}

// A refusal comes ahead of all that would not need the point or the multiplier.
func TestPointWrong(t *testing.T) {
	fine := []impl.Pt{ptOf(wholeZero()), ptOf(wholeBase()), ptOf(pointsOfSmallOrder()[2])}
	multipliers := []impl.Sc{scOf(big.NewInt(0)), scOf(big.NewInt(1)), scOf(plus(groupOrder, -1)), scOf(groupOrder), {}}
	for _, wrong := range wrongPts() {
		for _, other := range append(fine, wrong, impl.Pt{}) {
			for _, pair := range [][2]impl.Pt{{wrong, other}, {other, wrong}} {
				if got, ok := impl.PtAdd(pair[0], pair[1]); !isZeroPt(got, ok) {
					t.Errorf("PtAdd(%x, %x) = %x, %v", pair[0], pair[1], got, ok)
				}
			}
		}
		for _, k := range multipliers {
			if got, ok := impl.PtMul(wrong, k); !isZeroPt(got, ok) {
				t.Errorf("PtMul(%x, %x) = %x, %v", wrong, k, got, ok)
			}
		}
		if got, ok := impl.PtTwice(wrong); !isZeroPt(got, ok) {
			t.Errorf("PtTwice(%x) = %x, %v", wrong, got, ok)
		}
		if got, ok := impl.PtNeg(wrong); !isZeroPt(got, ok) {
			t.Errorf("PtNeg(%x) = %x, %v", wrong, got, ok)
		}
		if got := impl.PtBytes(wrong); len(got) != 0 {
			t.Errorf("PtBytes(%x) = %x", wrong, got)
		}
	}
}

func TestPtMulWrongMultipliers(t *testing.T) {
	points := []wholePoint{wholeZero(), wholeBase(), pointsOfSmallOrder()[1]}
	for _, k := range wrongScs() {
		for _, p := range points {
			if got, ok := impl.PtMul(ptOf(p), k); !isZeroPt(got, ok) {
				t.Errorf("PtMul(%v, %x) = %x, %v", p, k.L, got, ok)
			}
		}
	}
}

func TestPtBytes(t *testing.T) {
	for _, p := range manyPoints(100) {
		checkPtBytes(t, p)
		checkPtBytes(t, oppositeOf(p))
	}
	twice := sumOfPoints(wholeBase(), wholeBase())
	examples := []struct {
		point  wholePoint
		digits string
	}{{wholeBase(), baseDigits}, {twice, twiceBaseDigits}}
	for _, e := range examples {
		if got := impl.PtBytes(ptOf(e.point)); string(impl.Hex(got)) != e.digits {
			t.Errorf("PtBytes(%v) = %x, want %s", e.point, got, e.digits)
		}
	}
}

func TestPtReadExamples(t *testing.T) {
	small := pointsOfSmallOrder()
	for _, digits := range []string{eightDigits, otherEight} {
		for _, mark := range []byte{0, 128} {
			b, _ := impl.HexRead([]byte(digits))
			b[31] |= mark
			got, ok := impl.PtRead(b)
			if !ok || !slices.ContainsFunc(small, func(p wholePoint) bool { return equalPt(got, ptOf(p)) }) {
				t.Errorf("PtRead(%x) = %x, %v", b, got, ok)
			}
		}
	}
	minusOne := lowFirst(plus(fieldPrime, -1))
	one := lowFirst(big.NewInt(1))
	examples := []struct {
		b    []byte
		want bool
	}{
		{one, true}, {minusOne, true}, {lowFirst(big.NewInt(0)), true}, {lowFirst(power2(pointMark)), true},
		{lowFirst(new(big.Int).SetBit(big.NewInt(1), pointMark, 1)), false},
		{lowFirst(new(big.Int).SetBit(plus(fieldPrime, -1), pointMark, 1)), false},
		{lowFirst(fieldPrime), false}, {lowFirst(plus(fieldPrime, 1)), false}, {lowFirst(plus(power2(255), -1)), false},
		{lowFirst(plus(power2(256), -1)), false}, {lowFirst(big.NewInt(2)), false},
	}
	for _, e := range examples {
		got, ok := impl.PtRead(e.b)
		if ok != e.want || !ok && !isZeroPt(got, ok) {
			t.Errorf("PtRead(%x) = %x, %v", e.b, got, ok)
		}
		checkPtRead(t, e.b)
	}
}

func TestPtReadAtEdges(t *testing.T) {
	ends := []*big.Int{big.NewInt(0), fieldPrime, power2(255), plus(power2(256), -1), sumOf(fieldPrime, power2(255))}
	for _, n := range around(ends, 40, func(n *big.Int) bool { return n.Sign() >= 0 && n.BitLen() <= 256 }) {
		checkPtRead(t, lowFirst(n))
	}
}

func TestPtReadOfMany(t *testing.T) {
	read := 0
	for i := range 600 {
		sum := sha256.Sum256([]byte{byte(i), byte(i >> 8), 66})
		checkPtRead(t, sum[:])
		if _, ok := impl.PtRead(sum[:]); ok {
			read++
		}
	}
	if read < 100 || read > 500 {
		t.Errorf("%d of 600 were read", read)
	}
}

func TestPtReadEachBitCounts(t *testing.T) {
	for _, p := range []wholePoint{wholeZero(), wholeBase(), pointsOfSmallOrder()[4], anyPoints(1)[0]} {
		n := wholeOf(wholeBytes(p))
		for bit := range 256 {
			checkPtRead(t, lowFirst(new(big.Int).SetBit(n, bit, n.Bit(bit)^1)))
		}
	}
}

func TestPtReadLengths(t *testing.T) {
	for count := range 70 {
		for _, b := range append(fills(count), bytes.Repeat([]byte{1}, count)) {
			checkPtRead(t, b)
		}
	}
	checkPtRead(t, nil)
	checkPtRead(t, make([]byte, impl.MaxHash))
	for _, p := range []wholePoint{wholeZero(), wholeBase(), anyPoints(1)[0]} {
		b := wholeBytes(p)
		for _, wrong := range [][]byte{b[:31], append(slices.Clone(b), 0), append([]byte{0}, b...), slices.Concat(b, b)} {
			checkPtRead(t, wrong)
		}
	}
}

// lendPt lends a point with spare room behind the limbs of both numbers.
func lendPt(a impl.Pt) (impl.Pt, []lender) {
	x, lentX := lendFe(a.X)
	y, lentY := lendFe(a.Y)
	return impl.Pt{X: x, Y: y}, []lender{lentX, lentY}
}

func answerOfPt(a impl.Pt) answer { return answer{ints: [][]int{a.X.L, a.Y.L}} }

func memoryPts() []impl.Pt {
	zero, base, small := wholeZero(), wholeBase(), pointsOfSmallOrder()
	out := []impl.Pt{{}, {X: feOf(zero.x)}, {Y: feOf(zero.y)}, ptOf(wholePoint{fieldPrime, zero.y}), ptOf(wholePoint{zero.y, zero.y})}
	for _, p := range []wholePoint{zero, base, oppositeOf(base), small[1], small[2], small[4], anyPoints(1)[0]} {
		out = append(out, ptOf(p))
	}
	return out
}

func TestPtAddMemory(t *testing.T) {
	for _, first := range memoryPts() {
		for _, second := range memoryPts() {
			a, lentA := lendPt(first)
			b, lentB := lendPt(second)
			checkAnswer(t, "PtAdd", append(lentA, lentB...), func() answer { got, _ := impl.PtAdd(a, b); return answerOfPt(got) })
		}
		a, lent := lendPt(first)
		checkAnswer(t, "PtAdd of one twice", lent, func() answer { got, _ := impl.PtAdd(a, a); return answerOfPt(got) })
	}
}

func TestPtMulMemory(t *testing.T) {
	multipliers := []impl.Sc{{}, {L: make([]int, 15)}, {L: make([]int, 17)}, scOf(groupOrder)}
	for _, k := range []*big.Int{big.NewInt(0), big.NewInt(1), big.NewInt(2), plus(groupOrder, -1), anyScalars(1)[0]} {
		multipliers = append(multipliers, scOf(k))
	}
	for _, p := range memoryPts() {
		for _, sc := range multipliers {
			a, lentA := lendPt(p)
			k, lentK := lendSc(sc)
			checkAnswer(t, "PtMul", append(lentA, lentK), func() answer { got, _ := impl.PtMul(a, k); return answerOfPt(got) })
		}
		shared, lent := lendPt(p)
		checkAnswer(t, "PtMul by its own y", lent, func() answer { got, _ := impl.PtMul(shared, impl.Sc{L: shared.Y.L}); return answerOfPt(got) })
	}
}

func TestPointMemory(t *testing.T) {
	calls := []struct {
		name string
		call func(a impl.Pt) answer
	}{
		{"PtOk", func(a impl.Pt) answer { impl.PtOk(a); return answer{} }},
		{"PtTwice", func(a impl.Pt) answer { got, _ := impl.PtTwice(a); return answerOfPt(got) }},
		{"PtNeg", func(a impl.Pt) answer { got, _ := impl.PtNeg(a); return answerOfPt(got) }},
		{"PtBytes", func(a impl.Pt) answer { return answer{bytes: [][]byte{impl.PtBytes(a)}} }},
		{"PtZero", func(impl.Pt) answer { return answerOfPt(impl.PtZero()) }},
		{"PtBase", func(impl.Pt) answer { return answerOfPt(impl.PtBase()) }},
	}
	for _, c := range calls {
		for _, p := range memoryPts() {
			a, lent := lendPt(p)
			checkAnswer(t, c.name, lent, func() answer { return c.call(a) })
		}
	}
	lists := [][]byte{wholeBytes(wholeZero()), wholeBytes(wholeBase()), wholeBytes(oppositeOf(wholeBase())), lowFirst(fieldPrime), lowFirst(big.NewInt(2))}
	for _, count := range []int{0, 31, 32, 33} {
		lists = append(lists, fills(count)...)
	}
	for _, list := range lists {
		b := newRoomy(list)
		checkAnswer(t, "PtRead", []lender{b}, func() answer { got, _ := impl.PtRead(b.list()); return answerOfPt(got) })
	}
}

// What was answered once may be spoilt: what is answered next is as it was.
func TestPointsAreNotKept(t *testing.T) {
	for range 2 {
		zero, base := impl.PtZero(), impl.PtBase()
		twice, ok := impl.PtTwice(base)
		if !isPt(zero, true, wholeZero()) || !isPt(base, true, wholeBase()) || !isPt(twice, ok, sumOfPoints(wholeBase(), wholeBase())) {
			t.Fatalf("%x, %x, %x", zero, base, twice)
		}
		for _, l := range [][]int{zero.X.L, zero.Y.L, base.X.L, base.Y.L, twice.X.L, twice.Y.L} {
			spoil(l)
		}
	}
}

// What lies behind a list's length plays no part: limbs, or bytes, that are not all in it are none.
func TestPointSpareRoom(t *testing.T) {
	for _, p := range manyPoints(4) {
		whole := ptOf(p)
		shortX := impl.Pt{X: impl.Fe{L: whole.X.L[:15]}, Y: whole.Y}
		shortY := impl.Pt{X: whole.X, Y: impl.Fe{L: whole.Y.L[:15]}}
		roomy, _ := lendPt(whole)
		if impl.PtOk(shortX) || impl.PtOk(shortY) || !impl.PtOk(roomy) || !bytes.Equal(impl.PtBytes(roomy), wholeBytes(p)) {
			t.Fatalf("%v, with spare room", p)
		}
		if got, ok := impl.PtMul(whole, impl.Sc{L: scOf(big.NewInt(3)).L[:15]}); !isZeroPt(got, ok) {
			t.Fatalf("%v times a short multiplier = %x, %v", p, got, ok)
		}
		b := newRoomy(wholeBytes(p)).list()
		for _, count := range []int{31, 32, 33} {
			checkPtRead(t, b[:count])
		}
	}
}
