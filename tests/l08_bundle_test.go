package tests

import (
	"bytes"
	"crypto/sha256"
	"encoding/binary"
	"fmt"
	"math"
	"math/rand/v2"
	"slices"
	"testing"

	"loop.example/g00412/impl"
)

// The limits as the chapter tells them, in numbers of their own.
const (
	mostParts   = 4
	mostNeeds   = 8
	mostVersion = 1000
	mostSize    = 192
	sumBytes    = 32
)

// edgeVersions have one byte or two, and the least and the greatest of each.
var edgeVersions = []int{0, 1, 2, 127, 128, 129, 255, 256, 999, 1000}

func within(n, low, high int) bool { return low <= n && n <= high }

func wantPartOk(p impl.Part) bool {
	return within(p.Kind, 0, mostParts-1) && within(p.Version, 0, mostVersion) && within(p.Size, 1, mostSize) && len(p.Hash) == sumBytes
}

func wantNeedOk(n impl.Need) bool {
	return within(n.Of, 0, mostParts-1) && within(n.Kind, 0, mostParts-1) && n.Of != n.Kind && 0 <= n.From && n.From <= n.To && n.To <= mostVersion
}

// needPlace is greater for a need that comes later, where both are as they should.
func needPlace(n impl.Need) int {
	return ((n.Of*mostParts+n.Kind)*(mostVersion+1)+n.From)*(mostVersion+1) + n.To
}

func wantBundleOk(b impl.Bundle) bool {
	fine := within(b.Device, 0, mostVersion) && within(b.Number, 1, mostVersion) && within(b.Floor, 0, mostVersion) &&
		within(len(b.Parts), 1, mostParts) && within(len(b.Needs), 0, mostNeeds)
	for i, p := range b.Parts {
		fine = fine && wantPartOk(p) && (i == 0 || b.Parts[i-1].Kind < p.Kind)
	}
	for i, n := range b.Needs {
		fine = fine && wantNeedOk(n) && (i == 0 || needPlace(b.Needs[i-1]) < needPlace(n))
	}
	return fine
}

// bundleBytes puts each number by put, which is told its place among them; the bundle may be any whose numbers are not below 0.
func bundleBytes(b impl.Bundle, put func(out []byte, place, n int) []byte) []byte {
	var out []byte
	place := 0
	add := func(numbers ...int) {
		for _, n := range numbers {
			out = put(out, place, n)
			place++
		}
	}
	add(b.Device, b.Number, b.Floor, len(b.Parts))
	for _, p := range b.Parts {
		add(p.Kind, p.Version, p.Size)
		out = append(out, p.Hash...)
	}
	add(len(b.Needs))
	for _, n := range b.Needs {
		add(n.Of, n.Kind, n.From, n.To)
	}
	return out
}

func putShort(out []byte, _, n int) []byte { return binary.AppendUvarint(out, uint64(n)) }

func wantBundleBytes(b impl.Bundle) []byte { return bundleBytes(b, putShort) }

// laxRead takes numbers of any size, in as many bytes as they like.
func laxRead(x []byte) (impl.Bundle, bool) {
	var b impl.Bundle
	fine := true
	number := func() int {
		n, count := binary.Uvarint(x)
		if count <= 0 || n > math.MaxInt32 {
			fine = false
			return 0
		}
		x = x[count:]
		return int(n)
	}
	b.Device, b.Number, b.Floor = number(), number(), number()
	for range min(number(), 2*mostParts) {
		kind, version, size := number(), number(), number()
		count := min(sumBytes, len(x))
		b.Parts = append(b.Parts, impl.Part{Kind: kind, Version: version, Size: size, Hash: slices.Clone(x[:count])})
		x = x[count:]
	}
	for range min(number(), 2*mostNeeds) {
		of, kind, from, to := number(), number(), number(), number()
		b.Needs = append(b.Needs, impl.Need{Of: of, Kind: kind, From: from, To: to})
	}
	return b, fine && len(x) == 0
}

// wantRead: the bundle whose bytes x is, if there is one.
func wantRead(x []byte) (impl.Bundle, bool) {
	b, ok := laxRead(x)
	if !ok || !wantBundleOk(b) || !bytes.Equal(wantBundleBytes(b), x) {
		return impl.Bundle{}, false
	}
	return b, true
}

func wantLacks(b impl.Bundle) []impl.Need {
	if !wantBundleOk(b) {
		return nil
	}
	versions := map[int]int{}
	for _, p := range b.Parts {
		versions[p.Kind] = p.Version
	}
	return slices.DeleteFunc(slices.Clone(b.Needs), func(n impl.Need) bool {
		_, asks := versions[n.Of]
		version, has := versions[n.Kind]
		return !asks || has && within(version, n.From, n.To)
	})
}

func wantBundleText(b impl.Bundle) string {
	if !wantBundleOk(b) {
		return ""
	}
	text := fmt.Sprintf("bundle %d %d %d\n", b.Number, b.Device, b.Floor)
	for _, p := range b.Parts {
		text += fmt.Sprintf("part %d %d %d\n", p.Kind, p.Version, p.Size)
	}
	for _, n := range b.Needs {
		text += fmt.Sprintf("need %d %d %d %d\n", n.Of, n.Kind, n.From, n.To)
	}
	return text
}

// checkBundleRead: bytes are read as a bundle just if they are its very bytes.
func checkBundleRead(t *testing.T, x []byte) bool {
	t.Helper()
	got, ok := impl.BundleRead(x)
	want, wantOk := wantRead(x)
	if ok != wantOk || !sameAnswer(got, want) {
		t.Fatalf("BundleRead(%x) = %+v, %v, want %+v, %v", x, got, ok, want, wantOk)
	}
	if again, fine := impl.BundleBytes(got); fine != ok || ok && !bytes.Equal(again, x) {
		t.Fatalf("BundleRead(%x) = %+v: its bytes are %x, %v", x, got, again, fine)
	}
	return ok
}

// checkBundle asks all that hangs on a bundle alone.
func checkBundle(t *testing.T, name string, b impl.Bundle) {
	t.Helper()
	want := wantBundleOk(b)
	if got := impl.BundleOk(b); got != want {
		t.Fatalf("%s: BundleOk(%+v) = %v", name, b, got)
	}
	x, ok := impl.BundleBytes(b)
	if ok != want || !ok && len(x) > 0 || ok && !bytes.Equal(x, wantBundleBytes(b)) {
		t.Fatalf("%s: BundleBytes(%+v) = %x, %v", name, b, x, ok)
	}
	if ok {
		back, fine := impl.BundleRead(x)
		if !fine || !sameAnswer(back, b) {
			t.Fatalf("%s: %+v came back as %+v, %v", name, b, back, fine)
		}
	}
	lacks := impl.Lacks(b)
	if !slices.Equal(lacks, wantLacks(b)) {
		t.Fatalf("%s: Lacks(%+v) = %v, want %v", name, b, lacks, wantLacks(b))
	}
	if got := impl.Meets(b); got != (want && len(lacks) == 0) {
		t.Fatalf("%s: Meets(%+v) = %v, but Lacks %v", name, b, got, lacks)
	}
	if got := impl.BundleText(b); string(got) != wantBundleText(b) {
		t.Fatalf("%s: BundleText(%+v) = %q", name, b, got)
	}
}

func anyNumber(r *rand.Rand, least int) int {
	if r.IntN(2) == 0 {
		return max(least, edgeVersions[r.IntN(len(edgeVersions))])
	}
	return least + r.IntN(mostVersion+1-least)
}

func anyHash(r *rand.Rand) []byte {
	sum := sha256.Sum256(binary.LittleEndian.AppendUint64(nil, r.Uint64()))
	return sum[:]
}

func anyPart(r *rand.Rand, kind int) impl.Part {
	sizes := []int{1, 2, 127, 128, mostSize - 1, mostSize, 1 + r.IntN(mostSize)}
	return impl.Part{Kind: kind, Version: anyNumber(r, 0), Size: sizes[r.IntN(len(sizes))], Hash: anyHash(r)}
}

func anyNeed(r *rand.Rand) impl.Need {
	of, from := r.IntN(mostParts), anyNumber(r, 0)
	return impl.Need{Of: of, Kind: (of + 1 + r.IntN(mostParts-1)) % mostParts, From: from, To: max(from, anyNumber(r, 0))}
}

func sortNeeds(l []impl.Need) []impl.Need {
	slices.SortFunc(l, func(a, b impl.Need) int { return needPlace(a) - needPlace(b) })
	return slices.Compact(l)
}

// anyBundle has a part for each bit of kinds, and that many needs.
func anyBundle(r *rand.Rand, kinds, needs int) impl.Bundle {
	b := impl.Bundle{Device: anyNumber(r, 0), Number: anyNumber(r, 1), Floor: anyNumber(r, 0)}
	for kind := range mostParts {
		if kinds>>kind&1 == 1 {
			b.Parts = append(b.Parts, anyPart(r, kind))
		}
	}
	for len(b.Needs) < needs {
		b.Needs = sortNeeds(append(b.Needs, anyNeed(r)))
	}
	return b
}

func anySource(seed uint64) *rand.Rand { return rand.New(rand.NewPCG(seed, 8)) }

// fullBundle is as long as can be: all numbers are at their greatest.
func fullBundle() impl.Bundle {
	b := impl.Bundle{Device: mostVersion, Number: mostVersion, Floor: mostVersion}
	for kind := range mostParts {
		b.Parts = append(b.Parts, impl.Part{Kind: kind, Version: mostVersion, Size: mostSize, Hash: bytes.Repeat([]byte{255}, sumBytes)})
	}
	for i := range mostNeeds {
		b.Needs = append(b.Needs, impl.Need{Of: 3, Kind: 2, From: mostVersion - mostNeeds + i, To: mostVersion})
	}
	return b
}

// leastBundle is as short as can be.
func leastBundle() impl.Bundle {
	return impl.Bundle{Number: 1, Parts: []impl.Part{{Size: 1, Hash: make([]byte, sumBytes)}}}
}

// plainBundle meets its needs.
func plainBundle() impl.Bundle {
	return impl.Bundle{Device: 7, Number: 300, Floor: 20, Parts: []impl.Part{
		{Kind: 0, Version: 2, Size: 3, Hash: patternBytes(sumBytes)},
		{Kind: 2, Version: 500, Size: 150, Hash: bytes.Repeat([]byte{0x80}, sumBytes)},
	}, Needs: []impl.Need{{Of: 0, Kind: 2, From: 400, To: 600}, {Of: 2, Kind: 0, From: 1, To: 2}}}
}

func TestBundleConstants(t *testing.T) {
	if impl.MaxParts != mostParts || impl.MaxNeeds != mostNeeds || impl.MaxVersion != mostVersion || impl.PartBytes != mostSize {
		t.Error("a limit is another one")
	}
	if impl.KeyRoot != 1 || impl.KeyBundle != 2 {
		t.Error("a role is another one")
	}
	for want, code := range []int{impl.BuWell, impl.BuForm, impl.BuKey, impl.BuSign, impl.BuDevice, impl.BuOld, impl.BuNeeds} {
		if code != want {
			t.Errorf("the code %d is %d", want, code)
		}
	}
}

func TestBundlesComeBack(t *testing.T) {
	r := anySource(1)
	for kinds := 1; kinds < 1<<mostParts; kinds++ {
		for needs := range mostNeeds + 1 {
			for range 20 {
				b := anyBundle(r, kinds, needs)
				if !impl.BundleOk(b) {
					t.Fatalf("BundleOk(%+v) = false", b)
				}
				checkBundle(t, "any", b)
			}
		}
	}
	for _, b := range []impl.Bundle{fullBundle(), leastBundle(), plainBundle()} {
		if !impl.BundleOk(b) {
			t.Errorf("BundleOk(%+v) = false", b)
		}
		checkBundle(t, "named", b)
	}
}

func TestBundleBytesOfExamples(t *testing.T) {
	least := append([]byte{0, 1, 0, 1, 0, 0, 1}, make([]byte, sumBytes+1)...)
	if got, ok := impl.BundleBytes(leastBundle()); !ok || !bytes.Equal(got, least) {
		t.Errorf("the least one: %x, %v", got, ok)
	}
	plain := slices.Concat([]byte{7, 0xac, 2, 20, 2, 0, 2, 3}, patternBytes(sumBytes), []byte{2, 0xf4, 3, 0x96, 1}, bytes.Repeat([]byte{0x80}, sumBytes),
		[]byte{2, 0, 2, 0x90, 3, 0xd8, 4, 2, 0, 1, 2})
	if got, ok := impl.BundleBytes(plainBundle()); !ok || !bytes.Equal(got, plain) {
		t.Errorf("the plain one: %x, %v, want %x", got, ok, plain)
	}
	if got, ok := impl.BundleBytes(fullBundle()); !ok || len(got) != 7+4*(5+sumBytes)+1+8*6 {
		t.Errorf("the full one: %d bytes, %v", len(got), ok)
	}
}

// bundleChange makes of plainBundle one that may be or not, as ok tells.
type bundleChange struct {
	name string
	ok   bool
	do   func(b *impl.Bundle)
}

func bundleChanges() []bundleChange {
	return slices.Concat(changesOfNumbers(), changesOfParts(), changesOfPartLists(), changesOfNeeds(), changesOfNeedLists())
}

func limitChanges(name string, low, high int, field func(b *impl.Bundle) *int) []bundleChange {
	var out []bundleChange
	for _, n := range []int{math.MinInt, -1 << 32, -1, 0, 1, 191, 192, 193, 255, 256, mostVersion, mostVersion + 1, 1 << 16, 1<<32 + 1, math.MaxInt, low - 1, low, high, high + 1} {
		out = append(out, bundleChange{fmt.Sprint(name, " ", n), within(n, low, high), func(b *impl.Bundle) { *field(b) = n }})
	}
	return out
}

func changesOfNumbers() []bundleChange {
	return slices.Concat(
		limitChanges("Device", 0, mostVersion, func(b *impl.Bundle) *int { return &b.Device }),
		limitChanges("Number", 1, mostVersion, func(b *impl.Bundle) *int { return &b.Number }),
		limitChanges("Floor", 0, mostVersion, func(b *impl.Bundle) *int { return &b.Floor }),
	)
}

func changesOfParts() []bundleChange {
	out := slices.Concat(
		limitChanges("the first Version", 0, mostVersion, func(b *impl.Bundle) *int { return &b.Parts[0].Version }),
		limitChanges("the last Version", 0, mostVersion, func(b *impl.Bundle) *int { return &b.Parts[1].Version }),
		limitChanges("the first Size", 1, mostSize, func(b *impl.Bundle) *int { return &b.Parts[0].Size }),
		limitChanges("the last Size", 1, mostSize, func(b *impl.Bundle) *int { return &b.Parts[1].Size }),
		limitChanges("the first Kind, ahead of 2", 0, 1, func(b *impl.Bundle) *int { return &b.Parts[0].Kind }),
		limitChanges("the last Kind, behind 0", 1, mostParts-1, func(b *impl.Bundle) *int { return &b.Parts[1].Kind }),
	)
	for _, count := range []int{0, 1, 31, 32, 33, 64, 192} {
		for at := range 2 {
			out = append(out, bundleChange{fmt.Sprint("a Hash of ", count), count == sumBytes, func(b *impl.Bundle) { b.Parts[at].Hash = patternBytes(count) }})
		}
	}
	return append(out, bundleChange{"a Hash that is nil", false, func(b *impl.Bundle) { b.Parts[1].Hash = nil }})
}

func partsOfKinds(kinds ...int) []impl.Part {
	var out []impl.Part
	for _, kind := range kinds {
		out = append(out, anyPart(anySource(uint64(len(out))), kind))
	}
	return out
}

func changesOfPartLists() []bundleChange {
	var out []bundleChange
	for _, e := range []struct {
		kinds []int
		ok    bool
	}{
		{nil, false}, {[]int{0}, true}, {[]int{3}, true}, {[]int{4}, false}, {[]int{-1}, false}, {[]int{0, 3}, true}, {[]int{3, 0}, false},
		{[]int{1, 1}, false}, {[]int{0, 1, 2, 3}, true}, {[]int{0, 2, 1, 3}, false}, {[]int{0, 1, 3, 2}, false}, {[]int{1, 0, 2, 3}, false},
		{[]int{0, 1, 2, 2}, false}, {[]int{0, 0, 1, 2}, false}, {[]int{0, 1, 2, 3, 4}, false}, {[]int{-1, 0, 1, 2, 3}, false}, {[]int{0, 1, 2, 3, 3}, false},
		{[]int{-1, 0}, false}, {[]int{2, 3, 4}, false}, {make([]int, 5000), false},
	} {
		out = append(out, bundleChange{fmt.Sprint("Kinds ", len(e.kinds)), e.ok, func(b *impl.Bundle) { b.Parts = partsOfKinds(e.kinds...) }})
	}
	twins := func(b *impl.Bundle) { b.Parts[1] = b.Parts[0] }
	return append(out, bundleChange{"the same part twice", false, twins}, bundleChange{"an empty list of parts", false, func(b *impl.Bundle) { b.Parts = []impl.Part{} }})
}

func changesOfNeeds() []bundleChange {
	var out []bundleChange
	one := func(n impl.Need, ok bool) {
		out = append(out, bundleChange{fmt.Sprintf("the need %+v", n), ok, func(b *impl.Bundle) { b.Needs = []impl.Need{n} }})
	}
	for of := -1; of <= mostParts; of++ {
		for kind := -1; kind <= mostParts; kind++ {
			one(impl.Need{Of: of, Kind: kind, From: 1, To: 2}, within(of, 0, mostParts-1) && within(kind, 0, mostParts-1) && of != kind)
		}
	}
	for _, from := range []int{math.MinInt, -1, 0, 1, 500, mostVersion - 1, mostVersion, mostVersion + 1, math.MaxInt} {
		for _, to := range []int{math.MinInt, -1, 0, 1, 500, mostVersion - 1, mostVersion, mostVersion + 1, math.MaxInt} {
			one(impl.Need{Of: 3, Kind: 0, From: from, To: to}, within(from, 0, mostVersion) && within(to, 0, mostVersion) && from <= to)
		}
	}
	one(impl.Need{Of: math.MaxInt, Kind: math.MinInt, From: 0, To: 0}, false)
	return out
}

func needList(count int) []impl.Need {
	var out []impl.Need
	for i := range count {
		out = append(out, impl.Need{Of: 1, Kind: 0, From: 2, To: 3 + i})
	}
	return out
}

func changesOfNeedLists() []bundleChange {
	var out []bundleChange
	list := func(name string, ok bool, l []impl.Need) {
		out = append(out, bundleChange{name, ok, func(b *impl.Bundle) { b.Needs = l }})
	}
	for _, count := range []int{0, 1, mostNeeds - 1, mostNeeds, mostNeeds + 1, mostNeeds + 2, 900} {
		list(fmt.Sprint(count, " needs"), count <= mostNeeds, needList(count))
	}
	list("an empty list of needs", true, []impl.Need{})
	// Each first one comes ahead by the first number that is unlike, though the numbers behind that are greater.
	pairs := [][2]impl.Need{
		{{Of: 0, Kind: 3, From: 9, To: 9}, {Of: 1, Kind: 0, From: 0, To: 0}},
		{{Of: 2, Kind: 0, From: 9, To: 9}, {Of: 2, Kind: 1, From: 0, To: 0}},
		{{Of: 2, Kind: 0, From: 3, To: 9}, {Of: 2, Kind: 0, From: 4, To: 4}},
		{{Of: 2, Kind: 0, From: 3, To: 8}, {Of: 2, Kind: 0, From: 3, To: 9}},
	}
	for i, p := range pairs {
		list(fmt.Sprint("the pair ", i), true, []impl.Need{p[0], p[1]})
		list(fmt.Sprint("the pair turned round ", i), false, []impl.Need{p[1], p[0]})
		list(fmt.Sprint("alike ", i), false, []impl.Need{p[0], p[0]})
		full := append(needList(mostNeeds-2), impl.Need{Of: 3, Kind: 0}, impl.Need{Of: 3, Kind: 1})
		list(fmt.Sprint("a full list ", i), true, full)
		turnedRound := slices.Clone(full)
		turnedRound[i], turnedRound[i+1] = full[i+1], full[i]
		list(fmt.Sprint("a full list out of order ", i), false, turnedRound)
	}
	return out
}

func TestBundleEdges(t *testing.T) {
	for _, c := range bundleChanges() {
		b := plainBundle()
		c.do(&b)
		if wantBundleOk(b) != c.ok {
			t.Fatalf("%s: the tests do not agree", c.name)
		}
		checkBundle(t, c.name, b)
		if c.ok != checkBundleRead(t, wantBundleBytes(b)) {
			t.Errorf("%s: its bytes are read otherwise", c.name)
		}
	}
}

// Two changes at once, where both can be: one that is wrong stays so.
func TestBundleEdgesOfTwo(t *testing.T) {
	changes := bundleChanges()
	for i, c := range changes {
		for _, d := range changes[i%7:] {
			b := plainBundle()
			c.do(&b)
			if len(b.Parts) < 2 {
				continue
			}
			d.do(&b)
			if got := impl.BundleOk(b); got != wantBundleOk(b) {
				t.Fatalf("%s, %s: BundleOk(%+v) = %v", c.name, d.name, b, got)
			}
		}
	}
}

func bytesOfBundles() [][]byte {
	r := anySource(2)
	out := [][]byte{wantBundleBytes(fullBundle()), wantBundleBytes(leastBundle()), wantBundleBytes(plainBundle())}
	for i := range 12 {
		out = append(out, wantBundleBytes(anyBundle(r, 1+i, i%(mostNeeds+1))))
	}
	return out
}

func TestBundleReadCutShort(t *testing.T) {
	for _, x := range bytesOfBundles() {
		// The bytes that are cut off still stand in the spare room.
		for count := range len(x) {
			checkBundleRead(t, x[:count])
			if _, ok := impl.BundleRead(x[:count]); ok {
				t.Errorf("%d bytes of %x are read", count, x)
			}
		}
		for from := 1; from < len(x); from++ {
			checkBundleRead(t, x[from:])
			checkBundleRead(t, slices.Delete(slices.Clone(x), from, from+1))
		}
		if !checkBundleRead(t, x) {
			t.Errorf("%x is not read", x)
		}
	}
}

func TestBundleReadOneByteMore(t *testing.T) {
	for _, x := range bytesOfBundles() {
		for c := range 256 {
			if checkBundleRead(t, append(slices.Clone(x), byte(c))) {
				t.Errorf("%x with %x behind it is read", x, c)
			}
		}
		for at := range len(x) {
			for _, c := range []byte{0, 1, 2, 7, 127, 128, 129, 255, x[at]} {
				checkBundleRead(t, slices.Insert(slices.Clone(x), at, c))
			}
		}
		checkBundleRead(t, slices.Concat(x, x))
		checkBundleRead(t, slices.Concat(x, make([]byte, 4000)))
	}
}

func TestBundleReadOneByteTurned(t *testing.T) {
	for _, x := range bytesOfBundles() {
		read := 0
		for at := range len(x) {
			for by := 1; by < 256; by++ {
				y := slices.Clone(x)
				y[at] ^= byte(by)
				if checkBundleRead(t, y) {
					read++
				}
			}
		}
		// Each byte of a Hash may be any.
		if read < 255*sumBytes || read == 255*len(x) {
			t.Errorf("%d of %d are read", read, 255*len(x))
		}
	}
}

// putLong tells n in more bytes than it takes: a last one that is 0 behind others.
func putLong(out []byte, n, more int) []byte {
	short := binary.AppendUvarint(nil, uint64(n))
	short[len(short)-1] |= 128
	return slices.Concat(out, short, bytes.Repeat([]byte{128}, more-1), []byte{0})
}

func TestBundleReadLongNumbers(t *testing.T) {
	for _, b := range []impl.Bundle{fullBundle(), leastBundle(), plainBundle(), anyBundle(anySource(3), 15, 8)} {
		places := 5 + 3*len(b.Parts) + 4*len(b.Needs)
		for place := range places {
			for more := 1; more <= 5; more++ {
				x := bundleBytes(b, func(out []byte, at, n int) []byte {
					if at == place {
						return putLong(out, n, more)
					}
					return putShort(out, at, n)
				})
				if lax, ok := laxRead(x); !ok || !sameAnswer(lax, b) {
					t.Fatalf("the tests do not read %x", x)
				}
				if checkBundleRead(t, x) {
					t.Errorf("%x is read: its number %d has %d bytes more", x, place, more)
				}
			}
		}
	}
}

// Each number of a bundle's bytes is another one, those that tell how many there are among them.
func TestBundleReadOtherNumbers(t *testing.T) {
	for _, b := range []impl.Bundle{fullBundle(), leastBundle(), plainBundle()} {
		for place := range 5 + 3*len(b.Parts) + 4*len(b.Needs) {
			for _, other := range []int{0, 1, 2, 3, 4, 5, 8, 9, 127, 128, 191, 192, 193, 255, 256, 999, 1000, 1001, 1 << 20, impl.MaxNum, impl.MaxNum + 1, 1 << 32, 1<<32 + 1, math.MaxInt} {
				checkBundleRead(t, bundleBytes(b, func(out []byte, at, n int) []byte {
					if at == place {
						n = other
					}
					return putShort(out, at, n)
				}))
			}
		}
	}
}

func TestBundleReadAnyBytes(t *testing.T) {
	for count := range 300 {
		for _, x := range fills(count) {
			checkBundleRead(t, x)
		}
	}
	checkBundleRead(t, nil)
	checkBundleRead(t, make([]byte, 1<<20))
	some := []byte{0, 1, 2, 4, 128, 255}
	for i := range 6 * 6 * 6 * 6 * 6 * 6 {
		x := make([]byte, 6, 60)
		for k, rest := 0, i; k < 6; k, rest = k+1, rest/6 {
			x[k] = some[rest%6]
		}
		checkBundleRead(t, x)
		checkBundleRead(t, append(append(x, 1), make([]byte, sumBytes+1)...))
	}
}

// Each need and each version around its edges, with and without the parts that it tells of.
func TestLacksEachNeed(t *testing.T) {
	for kinds := 1; kinds < 1<<mostParts; kinds++ {
		for pair := range mostParts * mostParts {
			of, kind := pair/mostParts, pair%mostParts
			if of == kind {
				continue
			}
			for version := 3; version <= 9; version++ {
				b := anyBundle(anySource(4), kinds, 0)
				for i := range b.Parts {
					b.Parts[i].Version = version
				}
				b.Needs = []impl.Need{{Of: of, Kind: kind, From: 5, To: 7}}
				checkBundle(t, "one need", b)
				lacks := kinds>>of&1 == 1 && (kinds>>kind&1 == 0 || version < 5 || version > 7)
				if impl.Meets(b) == lacks || (len(impl.Lacks(b)) == 1) != lacks {
					t.Fatalf("kinds %b, version %d: %+v: Meets %v", kinds, version, b.Needs, !lacks)
				}
			}
		}
	}
}

// The version of the one that needs plays no part, only the other's.
func TestLacksLooksAtTheOther(t *testing.T) {
	b := plainBundle()
	b.Needs = []impl.Need{{Of: 0, Kind: 2, From: 2, To: 2}, {Of: 2, Kind: 0, From: 500, To: 500}}
	if got := impl.Lacks(b); !slices.Equal(got, b.Needs) || impl.Meets(b) {
		t.Errorf("Lacks = %v", got)
	}
	b.Needs = []impl.Need{{Of: 0, Kind: 2, From: 500, To: 500}, {Of: 2, Kind: 0, From: 2, To: 2}}
	if got := impl.Lacks(b); len(got) != 0 || !impl.Meets(b) {
		t.Errorf("Lacks = %v", got)
	}
}

func TestLacksInOrder(t *testing.T) {
	b := impl.Bundle{Device: 1, Number: 1, Parts: partsOfKinds(0, 1, 3)}
	for i := range b.Parts {
		b.Parts[i].Version = 10
	}
	b.Needs = []impl.Need{
		{Of: 0, Kind: 1, From: 11, To: 12}, {Of: 0, Kind: 2, From: 0, To: 1000}, {Of: 0, Kind: 3, From: 10, To: 10}, {Of: 1, Kind: 0, From: 0, To: 9},
		{Of: 1, Kind: 0, From: 0, To: 10}, {Of: 2, Kind: 0, From: 1, To: 2}, {Of: 2, Kind: 1, From: 1, To: 2}, {Of: 3, Kind: 2, From: 0, To: 0},
	}
	want := []impl.Need{b.Needs[0], b.Needs[1], b.Needs[3], b.Needs[7]}
	if got := impl.Lacks(b); !slices.Equal(got, want) {
		t.Errorf("Lacks = %v, want %v", got, want)
	}
	b.Needs = []impl.Need{b.Needs[2], b.Needs[4], b.Needs[5], b.Needs[6]}
	if got := impl.Lacks(b); len(got) != 0 || !impl.Meets(b) {
		t.Errorf("Lacks = %v", got)
	}
	if !impl.Meets(leastBundle()) || impl.Meets(impl.Bundle{}) {
		t.Error("Meets without needs")
	}
}

// Bundles of few versions, so that needs are met about as often as not.
func TestLacksOfMany(t *testing.T) {
	r := anySource(5)
	meets := 0
	for i := range 4000 {
		b := anyBundle(r, 1+i%15, 0)
		for k := range b.Parts {
			b.Parts[k].Version = r.IntN(4)
		}
		for range r.IntN(mostNeeds + 1) {
			n := anyNeed(r)
			n.From = r.IntN(4)
			n.To = n.From + r.IntN(4-n.From)
			b.Needs = append(b.Needs, n)
		}
		b.Needs = sortNeeds(b.Needs)
		checkBundle(t, "few versions", b)
		if impl.Meets(b) && len(b.Needs) > 0 {
			meets++
		}
	}
	if meets < 400 || meets > 3600 {
		t.Errorf("%d meet", meets)
	}
}

func checkPart(t *testing.T, kind, version int, data []byte) {
	t.Helper()
	sum := sha256.Sum256(data)
	want := impl.Part{Kind: kind, Version: version, Size: len(data), Hash: sum[:]}
	ok := wantPartOk(want)
	if !ok {
		want = impl.Part{}
	}
	got, fine := impl.PartOf(kind, version, data)
	if fine != ok || !sameAnswer(got, want) {
		t.Errorf("PartOf(%d, %d, %d bytes) = %+v, %v", kind, version, len(data), got, fine)
	}
	if impl.Fits(got, data) != ok {
		t.Errorf("Fits of PartOf(%d, %d, %d bytes) = %v", kind, version, len(data), !ok)
	}
}

func TestPartOf(t *testing.T) {
	for count := range mostSize + 70 {
		for _, data := range fills(count) {
			checkPart(t, count%mostParts, count, data)
		}
	}
	for _, count := range []int{0, 1, 2, mostSize - 1, mostSize, mostSize + 1, impl.MaxHash, impl.MaxHash + 1, 1 << 20} {
		for _, kind := range []int{math.MinInt, -1, 0, 1, 2, 3, 4, 5, math.MaxInt} {
			for _, version := range []int{math.MinInt, -1, 0, 1, 999, 1000, 1001, math.MaxInt} {
				checkPart(t, kind, version, patternBytes(count))
			}
		}
	}
	checkPart(t, 0, 0, nil)
	for _, count := range []int{0, mostSize + 1} {
		if got, ok := impl.PartOf(0, 0, make([]byte, count)); ok || !isZero(got) {
			t.Errorf("PartOf of %d bytes = %+v, %v", count, got, ok)
		}
	}
}

func TestFits(t *testing.T) {
	for _, count := range []int{1, 2, 3, 55, 56, 64, 127, 128, mostSize - 1, mostSize} {
		data := patternBytes(count)
		p, ok := impl.PartOf(1, 2, data)
		if !ok || !impl.Fits(p, data) {
			t.Fatalf("%d bytes do not fit", count)
		}
		for bit := range 8 * count {
			if impl.Fits(p, turned(data, bit)) {
				t.Errorf("%d bytes with the bit %d turned fit", count, bit)
			}
		}
		for _, other := range [][]byte{nil, {}, data[1:], data[:count-1], append(slices.Clone(data), 0), append([]byte{0}, data...), make([]byte, 1<<20)} {
			if impl.Fits(p, other) {
				t.Errorf("%d bytes fit for %d", len(other), count)
			}
		}
		for bit := range 8 * sumBytes {
			q := p
			q.Hash = turned(p.Hash, bit)
			if impl.Fits(q, data) {
				t.Errorf("the Hash with the bit %d turned fits", bit)
			}
		}
	}
}

// The Hash is right in all of these: one other thing about the part is not, or is at its limit.
func TestFitsWrongParts(t *testing.T) {
	for _, count := range []int{0, 1, mostSize - 1, mostSize, mostSize + 1, impl.MaxHash + 1} {
		data := patternBytes(count)
		sum := sha256.Sum256(data)
		for _, kind := range []int{math.MinInt, -1, 0, 3, 4, math.MaxInt} {
			for _, version := range []int{math.MinInt, -1, 0, 1000, 1001, math.MaxInt} {
				for _, size := range []int{math.MinInt, -1, 0, 1, count - 1, count, count + 1, mostSize, mostSize + 1, math.MaxInt} {
					p := impl.Part{Kind: kind, Version: version, Size: size, Hash: sum[:]}
					if got := impl.Fits(p, data); got != (wantPartOk(p) && size == count) {
						t.Errorf("Fits(%+v, %d bytes) = %v", p, count, got)
					}
				}
			}
		}
		for _, hash := range [][]byte{nil, {}, sum[:31], append(slices.Clone(sum[:]), 0), make([]byte, sumBytes)} {
			if impl.Fits(impl.Part{Size: count, Hash: hash}, data) {
				t.Errorf("a Hash of %d bytes fits", len(hash))
			}
		}
	}
	if impl.Fits(impl.Part{}, nil) {
		t.Error("nothing fits nothing")
	}
}

func TestBundleText(t *testing.T) {
	b := plainBundle()
	if got := string(impl.BundleText(b)); got != "bundle 300 7 20\npart 0 2 3\npart 2 500 150\nneed 0 2 400 600\nneed 2 0 1 2\n" {
		t.Errorf("BundleText = %q", got)
	}
	b.Needs = nil
	if got := string(impl.BundleText(b)); got != "bundle 300 7 20\npart 0 2 3\npart 2 500 150\n" {
		t.Errorf("without needs: BundleText = %q", got)
	}
	if got := string(impl.BundleText(leastBundle())); got != "bundle 1 0 0\npart 0 0 1\n" {
		t.Errorf("of the least one: BundleText = %q", got)
	}
	b.Number = 0
	for _, wrong := range []impl.Bundle{b, {}} {
		if got := impl.BundleText(wrong); len(got) != 0 {
			t.Errorf("BundleText(%+v) = %q", wrong, got)
		}
	}
}

// memoryBundles may be or not; some have lists that are nil.
func memoryBundles() []impl.Bundle {
	out := []impl.Bundle{{}, fullBundle(), leastBundle(), plainBundle(), {Number: 1, Parts: []impl.Part{{Size: 1}}}}
	lacking := plainBundle()
	lacking.Needs = []impl.Need{{Of: 0, Kind: 1, From: 1, To: 1}, {Of: 0, Kind: 2, From: 501, To: 600}, {Of: 2, Kind: 0, From: 2, To: 2}, {Of: 2, Kind: 0, From: 3, To: 3}}
	out = append(out, lacking)
	for _, c := range []func(b *impl.Bundle){
		func(b *impl.Bundle) { b.Number = 0 },
		func(b *impl.Bundle) { b.Parts = partsOfKinds(0, 1, 2, 3, 3) },
		func(b *impl.Bundle) { slices.Reverse(b.Needs) },
		func(b *impl.Bundle) { b.Parts[1].Hash = patternBytes(33) },
	} {
		b := plainBundle()
		c(&b)
		out = append(out, b)
	}
	return out
}

type bytesAnswer struct {
	Bytes []byte
	Ok    bool
}

type readAnswer struct {
	Bundle impl.Bundle
	Ok     bool
}

type partAnswer struct {
	Part impl.Part
	Ok   bool
}

type partArgs struct {
	Part impl.Part
	Data []byte
}

func TestBundleMemory(t *testing.T) {
	for _, b := range memoryBundles() {
		checkCall(t, "BundleOk", b, impl.BundleOk)
		checkCall(t, "BundleBytes", b, func(b impl.Bundle) bytesAnswer {
			got, ok := impl.BundleBytes(b)
			return bytesAnswer{got, ok}
		})
		checkCall(t, "Meets", b, impl.Meets)
		checkCall(t, "Lacks", b, impl.Lacks)
		checkCall(t, "BundleText", b, impl.BundleText)
		x := wantBundleBytes(b)
		for _, count := range []int{0, len(x) - 1, len(x)} {
			checkCall(t, "BundleRead", x[:count], func(x []byte) readAnswer {
				got, ok := impl.BundleRead(x)
				return readAnswer{got, ok}
			})
		}
	}
}

func TestPartMemory(t *testing.T) {
	for _, count := range []int{0, 1, 64, mostSize, mostSize + 1} {
		checkCall(t, "PartOf", patternBytes(count), func(data []byte) partAnswer {
			got, ok := impl.PartOf(1, 2, data)
			return partAnswer{got, ok}
		})
		sum := sha256.Sum256(patternBytes(count))
		for _, hash := range [][]byte{nil, sum[:31], sum[:]} {
			args := partArgs{impl.Part{Kind: 1, Version: 2, Size: count, Hash: hash}, patternBytes(count)}
			checkCall(t, "Fits", args, func(a partArgs) bool { return impl.Fits(a.Part, a.Data) })
		}
	}
}

// A list of an argument may be the same as another one's: each of the answer's is one of its own.
func TestBundleListsAreParted(t *testing.T) {
	b := fullBundle()
	for i := range b.Parts {
		b.Parts[i].Hash = b.Parts[0].Hash
	}
	checkBundle(t, "one Hash for all", b)
	x, _ := impl.BundleBytes(b)
	got, ok := impl.BundleRead(x)
	for i := range got.Parts {
		spoil(got.Parts[i].Hash)
		for k := range got.Parts {
			if bytes.Equal(got.Parts[k].Hash, b.Parts[0].Hash) == (k <= i) {
				t.Fatalf("the Hash %d changed with %d", k, i)
			}
		}
	}
	if again, fine := impl.BundleRead(x); !ok || !fine || !sameAnswer(again, b) {
		t.Errorf("read again: %+v, %v", again, fine)
	}
}
