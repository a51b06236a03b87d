package tests

import (
	"bytes"
	"fmt"
	"math"
	"slices"
	"testing"

	"loop.example/g00412/impl"
)

// edgeMasks: of no byte, of one, of a sector's, of the most; of numbers that go evenly into a sector, and of those that don't.
func edgeMasks() []int {
	return []int{0, 1, 2, 3, 4, 5, 7, 8, 31, 32, 33, 48, 63, 64, 65, 100, 127, 128, 129, 255, 256}
}

// checkTorn: each bit is as it was, or as it was meant, and that just where the mask has it; mask goes round from the place at on.
func checkTorn(t *testing.T, name string, was, meant, torn impl.Flash, at, n int, mask []byte) {
	t.Helper()
	for i := range wholeSize {
		for bit := range 8 {
			got, old, aim := bitOf(torn.Bytes[i], bit), bitOf(was.Bytes[i], bit), bitOf(meant.Bytes[i], bit)
			if got != old && got != aim {
				t.Fatalf("%s: the bit %d of %d is neither as it was nor as it was meant", name, bit, i)
			}
			want := old
			if within(i, at, at+n-1) && maskBit(mask, i-at, bit) {
				want = aim
			}
			if got != want {
				t.Fatalf("%s: the bit %d of %d is %v, want %v", name, bit, i, got, want)
			}
		}
	}
	if !slices.Equal(torn.Wear, meant.Wear) {
		t.Fatalf("%s: Wear %v, want %v", name, torn.Wear, meant.Wear)
	}
}

func checkTornWrite(t *testing.T, name string, f impl.Flash, w write, mask []byte) {
	t.Helper()
	name = fmt.Sprintf("%s: at %d of %s by %s", name, w.at, tell(w.b), tell(mask))
	meant, _ := impl.Program(f, w.at, w.b)
	torn, code := impl.TornProgram(f, w.at, w.b, mask)
	if code != impl.FlWell {
		t.Fatalf("%s: %d", name, code)
	}
	checkTorn(t, name, f, meant, torn, w.at, len(w.b), mask)
	again, code := impl.Program(torn, w.at, w.b)
	checkFlash(t, name+": done again", again, code, meant, impl.FlWell)
}

func checkTornSector(t *testing.T, name string, f impl.Flash, sector int, mask []byte) {
	t.Helper()
	name = fmt.Sprintf("%s: erase of %d by %s", name, sector, tell(mask))
	meant, _ := impl.Erase(f, sector)
	torn, code := impl.TornErase(f, sector, mask)
	if code != impl.FlWell || torn.Wear[sector] != f.Wear[sector]+1 {
		t.Fatalf("%s: %d, Wear %d, was %d", name, code, torn.Wear[sector], f.Wear[sector])
	}
	checkTorn(t, name, f, meant, torn, sector*sectorSize, sectorSize, mask)
	again, code := impl.Erase(torn, sector)
	twice := copyFlash(meant)
	twice.Wear[sector]++
	checkFlash(t, name+": done again", again, code, twice, impl.FlWell)
}

func TestTornProgramLiesBetween(t *testing.T) {
	r := anySource(96)
	for _, c := range manyFlashes() {
		for range 6 {
			for _, w := range drawnWrites(r, r.IntN(allSectors)) {
				checkTornWrite(t, c.name, c.flash, w, drawnBytes(r, r.IntN(mostMask+1)))
				checkTornWrite(t, c.name, c.flash, w, drawnBytes(r, 1+r.IntN(4)))
			}
		}
	}
}

func TestTornEraseLiesBetween(t *testing.T) {
	r := anySource(97)
	for _, c := range manyFlashes() {
		for range 30 {
			sector := r.IntN(allSectors)
			checkTornSector(t, c.name, c.flash, sector, drawnBytes(r, r.IntN(mostMask+1)))
			checkTornSector(t, c.name, c.flash, sector, drawnBytes(r, 1+r.IntN(4)))
		}
		checkTornSector(t, c.name, c.flash, 0, drawnBytes(r, 11))
		checkTornSector(t, c.name, c.flash, lastSector, drawnBytes(r, 11))
	}
}

// Torn again and again, and each time by another mask, it still comes to what was meant.
func TestTornManyTimes(t *testing.T) {
	r := anySource(98)
	for _, c := range manyFlashes() {
		w := drawnWrites(r, r.IntN(allSectors))[0]
		meant, _ := impl.Program(c.flash, w.at, w.b)
		torn := c.flash
		for range 5 {
			torn, _ = impl.TornProgram(torn, w.at, w.b, drawnBytes(r, r.IntN(100)))
			again, code := impl.Program(torn, w.at, w.b)
			checkFlash(t, c.name+": torn again", again, code, meant, impl.FlWell)
		}
		still, code := impl.TornProgram(meant, w.at, w.b, drawnBytes(r, 9))
		checkFlash(t, c.name+": torn, when it is done", still, code, meant, impl.FlWell)
	}
}

// A write that is torn may be erased, and an erase that is torn may be written over: each is as on any flash.
func TestTornThenTheOther(t *testing.T) {
	r := anySource(99)
	f := mixedFlash()
	for range 200 {
		sector := r.IntN(allSectors)
		b, mask := drawnBytes(r, sectorSize), drawnBytes(r, 1+r.IntN(70))
		checkTornProgram(t, "on and on", f, sector*sectorSize, b, mask)
		f, _ = impl.TornProgram(f, sector*sectorSize, b, mask)
		checkErase(t, "behind a torn write", f, sector)
		checkTornErase(t, "on and on", f, sector, mask[1:])
		f, _ = impl.TornErase(f, sector, mask[1:])
		checkProgram(t, "behind a torn erase", f, sector*sectorSize, b)
	}
}

func TestMaskGoesRound(t *testing.T) {
	r := anySource(100)
	for _, f := range []impl.Flash{flashOf(255, 0), flashOf(0, 0), mixedFlash()} {
		for _, count := range edgeMasks() {
			mask := drawnBytes(r, count)
			for _, n := range []int{0, 1, 2, 3, 6, 7, 10, 16, 63, 64} {
				// The places are no multiples of most masks: the mask begins with the write, not with the sector.
				for _, at := range []int{0, sectorSize - n, 5*sectorSize + (sectorSize-n)/2, wholeSize - n} {
					checkTornWrite(t, "mask", f, write{at, make([]byte, n)}, mask)
					checkTornProgram(t, "mask", f, at, drawnBytes(r, n), mask)
				}
			}
			for _, sector := range []int{0, 1, 2, 5, 46, lastSector} {
				checkTornSector(t, "mask", f, sector, mask)
			}
		}
	}
}

// Each byte of a mask tells of just those bytes that it goes round to.
func TestMaskOneByteOfIt(t *testing.T) {
	for _, count := range []int{1, 2, 3, 7, 64, 65, 256} {
		for k := range count {
			mask := make([]byte, count)
			mask[k] = 255
			wrote, code := impl.TornProgram(flashOf(255, 0), 3*sectorSize, make([]byte, sectorSize), mask)
			erased, eraseCode := impl.TornErase(flashOf(0, 0), 3, mask)
			if code != impl.FlWell || eraseCode != impl.FlWell {
				t.Fatalf("%d, %d", code, eraseCode)
			}
			for i := range sectorSize {
				reached := i%count == k
				if got := wrote.Bytes[3*sectorSize+i]; (got == 0) != reached || (got == 255) == reached {
					t.Fatalf("a mask of %d: written byte %d is %x", count, i, got)
				}
				if got := erased.Bytes[3*sectorSize+i]; (got == 255) != reached || (got == 0) == reached {
					t.Fatalf("a mask of %d: erased byte %d is %x", count, i, got)
				}
			}
		}
	}
}

func TestMaskExamples(t *testing.T) {
	f := flashOf(0xf0, 7)
	got, code := impl.TornProgram(f, 62, []byte{0x3c, 0x3c}, []byte{0x80, 0x40, 0xff})
	want := copyFlash(f)
	want.Bytes[62], want.Bytes[63] = 0x70, 0xb0
	checkFlash(t, "TornProgram", got, code, want, impl.FlWell)

	got, code = impl.TornErase(f, 1, []byte{0x01, 0x82, 0})
	want = copyFlash(f)
	for i := range sectorSize {
		want.Bytes[sectorSize+i] = []byte{0xf1, 0xf2, 0xf0}[i%3]
	}
	want.Wear[1] = 8
	checkFlash(t, "TornErase", got, code, want, impl.FlWell)
}

// A mask that has no bit turns none; the sector is the more worn all the same.
func TestMaskOfNothing(t *testing.T) {
	for _, mask := range [][]byte{nil, {}, {0}, {0, 0, 0}, make([]byte, mostMask)} {
		for _, c := range manyFlashes() {
			for sector := range allSectors {
				got, code := impl.TornProgram(c.flash, sector*sectorSize, make([]byte, sectorSize), mask)
				checkFlash(t, c.name+": no bit is programmed", got, code, c.flash, impl.FlWell)
				got, code = impl.TornErase(c.flash, sector, mask)
				want := copyFlash(c.flash)
				want.Wear[sector]++
				checkFlash(t, c.name+": no bit is erased", got, code, want, impl.FlWell)
			}
		}
	}
}

// A mask of 255 alone, of however many bytes, tears nothing.
func TestMaskOfAll(t *testing.T) {
	r := anySource(101)
	for _, count := range edgeMasks()[1:] {
		mask := bytes.Repeat([]byte{255}, count)
		for _, c := range manyFlashes() {
			w := drawnWrites(r, r.IntN(allSectors))[3]
			want, _ := impl.Program(c.flash, w.at, w.b)
			got, code := impl.TornProgram(c.flash, w.at, w.b, mask)
			checkFlash(t, c.name+": all are programmed", got, code, want, impl.FlWell)
			sector := r.IntN(allSectors)
			want, _ = impl.Erase(c.flash, sector)
			got, code = impl.TornErase(c.flash, sector, mask)
			checkFlash(t, c.name+": all are erased", got, code, want, impl.FlWell)
		}
	}
}

func TestMaskLimit(t *testing.T) {
	f := mixedFlash()
	for _, count := range []int{255, 256, 257, 258, 512, 5000} {
		for _, fill := range []byte{0, 1, 255} {
			mask := bytes.Repeat([]byte{fill}, count)
			want := impl.FlWell
			if count > mostMask {
				want = impl.FlForm
			}
			got, code := impl.TornProgram(f, 10, []byte{1, 2}, mask)
			if code != want || code == impl.FlForm && !isZero(got) {
				t.Errorf("TornProgram by a mask of %d: %d", count, code)
			}
			got, code = impl.TornErase(f, 10, mask)
			if code != want || code == impl.FlForm && !isZero(got) {
				t.Errorf("TornErase by a mask of %d: %d", count, code)
			}
			checkTornProgram(t, "mask", f, 10, []byte{1, 2}, mask)
			checkTornProgram(t, "mask", f, 10, nil, mask)
			checkTornErase(t, "mask", f, 10, mask)
		}
	}
}

// formReason is a way in which FlForm comes about, with a flash made of another one; the one of no name is none.
type formReason struct {
	name  string
	flash func(f impl.Flash) impl.Flash
	mask  []byte
}

func formReasons() []formReason {
	same := func(f impl.Flash) impl.Flash { return f }
	shorter := func(f impl.Flash) impl.Flash { f.Bytes = f.Bytes[:lastByte]; return f }
	longer := func(f impl.Flash) impl.Flash { f.Bytes = append(slices.Clone(f.Bytes), 255); return f }
	lessWear := func(f impl.Flash) impl.Flash { f.Wear = f.Wear[:lastSector]; return f }
	moreWear := func(f impl.Flash) impl.Flash { f.Wear = append(slices.Clone(f.Wear), 0); return f }
	below := func(f impl.Flash) impl.Flash { f = copyFlash(f); f.Wear[7] = -1; return f }
	above := func(f impl.Flash) impl.Flash { f = copyFlash(f); f.Wear[7] = mostWear + 1; return f }
	nothing := func(impl.Flash) impl.Flash { return impl.Flash{} }
	long := make([]byte, mostMask+1)
	return []formReason{
		{"", same, []byte{255}},
		{"a long mask", same, long},
		{"a byte less", shorter, []byte{255}},
		{"a byte more", longer, []byte{255}},
		{"a Wear less", lessWear, []byte{255}},
		{"a Wear more", moreWear, []byte{255}},
		{"a Wear below", below, []byte{255}},
		{"a Wear above", above, []byte{255}},
		{"nothing", nothing, []byte{255}},
		{"a byte less and a long mask", shorter, long},
		{"a Wear above and a long mask", above, long},
	}
}

// checkRefused: the zero value with FlForm, f itself with all others.
func checkRefused(t *testing.T, name string, f, got impl.Flash, code, want int) {
	t.Helper()
	if code != want {
		t.Errorf("%s: %d, want %d", name, code, want)
	}
	if code == impl.FlForm && !isZero(got) || code != impl.FlForm && !sameFlash(got, f) {
		t.Errorf("%s: beside %d stand %d bytes, Wear %v", name, code, len(got.Bytes), got.Wear)
	}
}

// Where bytes lie past an end, and in more than one sector, FlAt and FlCross both apply.
func TestProgramFirstReasonCounts(t *testing.T) {
	cases := []struct {
		name     string
		at, n    int
		whatElse int
	}{
		{"two sectors", 63, 2, impl.FlCross},
		{"a sector and a byte", 64, 65, impl.FlCross},
		{"all", 0, wholeSize, impl.FlCross},
		{"below, one byte", -1, 1, impl.FlAt},
		{"below, and over a border", -1, 2, impl.FlAt},
		{"below, and over two", -1, 66, impl.FlAt},
		{"past the end, one byte", wholeSize, 1, impl.FlAt},
		{"past the end, and over its border", lastByte, 2, impl.FlAt},
		{"past the end, and over a border ahead of it", 3000, 100, impl.FlAt},
		{"more than all", 0, wholeSize + 1, impl.FlAt},
		{"far off", math.MaxInt, 2, impl.FlAt},
		{"far below", math.MinInt, 100, impl.FlAt},
	}
	for _, form := range formReasons() {
		for _, c := range cases {
			f := form.flash(mixedFlash())
			want := c.whatElse
			if form.name != "" {
				want = impl.FlForm
			}
			got, code := impl.TornProgram(f, c.at, make([]byte, c.n), form.mask)
			checkRefused(t, form.name+", "+c.name, f, got, code, want)
			if len(form.mask) > mostMask {
				continue
			}
			got, code = impl.Program(f, c.at, make([]byte, c.n))
			checkRefused(t, form.name+", "+c.name+": Program", f, got, code, want)
		}
	}
}

// All sectors are worn, so that one that is not there would be so, too.
func TestEraseFirstReasonCounts(t *testing.T) {
	cases := []struct{ sector, whatElse int }{
		{0, impl.FlWorn}, {7, impl.FlWorn}, {8, impl.FlWorn}, {lastSector, impl.FlWorn},
		{-1, impl.FlAt}, {allSectors, impl.FlAt}, {math.MinInt, impl.FlAt}, {math.MaxInt, impl.FlAt}, {1 << 58, impl.FlAt},
	}
	for _, form := range formReasons() {
		for _, c := range cases {
			f := form.flash(flashOf(0x5a, mostWear))
			want := c.whatElse
			if form.name != "" {
				want = impl.FlForm
			}
			name := fmt.Sprintf("%s, the sector %d", form.name, c.sector)
			got, code := impl.TornErase(f, c.sector, form.mask)
			checkRefused(t, name, f, got, code, want)
			if len(form.mask) > mostMask {
				continue
			}
			got, code = impl.Erase(f, c.sector)
			checkRefused(t, name+": Erase", f, got, code, want)
		}
	}
}

func TestReadAtFirstReasonCounts(t *testing.T) {
	for _, form := range formReasons() {
		f := form.flash(flashOf(255, 0))
		want := impl.FlAt
		if !wantFlashOk(f) {
			want = impl.FlForm
		}
		for _, place := range [][2]int{{-1, 1}, {0, -1}, {0, wholeSize + 1}, {wholeSize + 1, 0}, {math.MaxInt, math.MaxInt}} {
			if got, code := impl.ReadAt(f, place[0], place[1]); code != want || len(got) > 0 {
				t.Errorf("%s: ReadAt %v = %x, %d, want %d", form.name, place, got, code, want)
			}
			if impl.Blank(f, place[0], place[1]) {
				t.Errorf("%s: Blank %v", form.name, place)
			}
		}
	}
}

type placeArgs struct {
	Flash impl.Flash
	At, N int
}

type tornArgs struct {
	Flash impl.Flash
	At    int
	B     []byte
	Mask  []byte
}

type flashAnswer struct {
	Flash impl.Flash
	Code  int
}

type readAtAnswer struct {
	Bytes []byte
	Code  int
}

type twoFlashes struct{ A, B impl.Flash }

func memoryFlashes() []flashCase {
	worn := mixedFlash()
	worn.Wear[3] = mostWear
	short := mixedFlash()
	short.Bytes = short.Bytes[:lastByte]
	above := mixedFlash()
	above.Wear[lastSector] = mostWear + 1
	// With the spare room of a lent list these would have enough.
	fewer := mixedFlash()
	fewer.Wear = fewer.Wear[:lastSector]
	return []flashCase{
		{"blank", flashOf(255, 0)}, {"drawn", mixedFlash()}, {"one is worn", worn},
		{"a byte less", short}, {"a Wear less", fewer}, {"a Wear above", above}, {"nothing", impl.Flash{}},
	}
}

func callTornProgram(a tornArgs) flashAnswer {
	got, code := impl.TornProgram(a.Flash, a.At, a.B, a.Mask)
	return flashAnswer{got, code}
}

func callProgram(a tornArgs) flashAnswer {
	got, code := impl.Program(a.Flash, a.At, a.B)
	return flashAnswer{got, code}
}

func callTornErase(a tornArgs) flashAnswer {
	got, code := impl.TornErase(a.Flash, a.At, a.Mask)
	return flashAnswer{got, code}
}

func callErase(a tornArgs) flashAnswer {
	got, code := impl.Erase(a.Flash, a.At)
	return flashAnswer{got, code}
}

func TestFlashMemory(t *testing.T) {
	for _, c := range memoryFlashes() {
		checkCall(t, "FlashOk of "+c.name, c.flash, impl.FlashOk)
		checkCall(t, "WearMost of "+c.name, c.flash, impl.WearMost)
		for _, place := range [][2]int{{-1, 1}, {0, 0}, {0, 1}, {60, 10}, {0, wholeSize}, {lastByte, 1}, {lastByte, 2}, {wholeSize, 0}} {
			args := placeArgs{c.flash, place[0], place[1]}
			checkCall(t, "Blank of "+c.name, args, func(a placeArgs) bool { return impl.Blank(a.Flash, a.At, a.N) })
			checkCall(t, "ReadAt of "+c.name, args, func(a placeArgs) readAtAnswer {
				got, code := impl.ReadAt(a.Flash, a.At, a.N)
				return readAtAnswer{got, code}
			})
		}
		for _, other := range memoryFlashes() {
			checkCall(t, "Differs of "+c.name+" and "+other.name, twoFlashes{c.flash, other.flash}, func(a twoFlashes) []int {
				return impl.Differs(a.A, a.B)
			})
		}
	}
}

func TestTornMemory(t *testing.T) {
	for _, c := range memoryFlashes() {
		for _, mask := range [][]byte{nil, {}, {0x5a}, patternBytes(3), patternBytes(mostMask), patternBytes(mostMask + 1)} {
			for _, w := range []write{{-1, []byte{1}}, {0, nil}, {3, patternBytes(5)}, {lastByte, []byte{0}}, {lastByte, []byte{0, 0}}, {63, []byte{0, 0}}, {wholeSize, nil}, {wholeSize, []byte{0}}} {
				checkCall(t, "TornProgram of "+c.name, tornArgs{c.flash, w.at, w.b, mask}, callTornProgram)
			}
			for _, sector := range []int{-1, 0, 3, lastSector, allSectors} {
				checkCall(t, "TornErase of "+c.name, tornArgs{c.flash, sector, nil, mask}, callTornErase)
			}
		}
		for _, at := range []int{-1, 0, 3, lastSector, allSectors, 63, 64, lastByte, wholeSize} {
			checkCall(t, "Program of "+c.name, tornArgs{c.flash, at, patternBytes(2), nil}, callProgram)
			checkCall(t, "Erase of "+c.name, tornArgs{c.flash, at, nil, nil}, callErase)
		}
	}
}

// What is written, and the mask, may lie in the flash itself: it is read as it was, and stays so.
func TestFlashListsAreOne(t *testing.T) {
	f := mixedFlash()
	was := copyFlash(f)
	for _, at := range []int{0, 1, 64, 65, 100} {
		b, mask := f.Bytes[64:84], f.Bytes[70:100]
		got, code := impl.TornProgram(f, at, b, mask)
		want, wantCode := wantTornProgram(was, at, slices.Clone(b), slices.Clone(mask))
		checkFlash(t, fmt.Sprintf("its own bytes at %d", at), got, code, want, wantCode)
		got, code = impl.TornErase(f, 1, mask)
		want, wantCode = wantTornErase(was, 1, slices.Clone(mask))
		checkFlash(t, "a mask of its own bytes", got, code, want, wantCode)
		checkFlash(t, "the flash itself", f, 0, was, 0)
	}
	if got := impl.Differs(f, f); len(got) > 0 {
		t.Errorf("a flash and itself: Differs %v", got)
	}
}

// What was answered once may be spoilt: what is answered next is as it was, and so is what it was made of.
func TestFlashesAreNotKept(t *testing.T) {
	f := mixedFlash()
	f.Wear[9] = mostWear
	was := copyFlash(f)
	for range 3 {
		fresh := impl.FlashNew()
		checkFlash(t, "FlashNew", fresh, 0, flashOf(255, 0), 0)
		answers := []impl.Flash{fresh}
		for _, at := range []int{-1, 0, 9, 63, 64, wholeSize} {
			checkProgram(t, "again", f, at, []byte{1, 2})
			checkErase(t, "again", f, at)
			program, _ := impl.Program(f, at, []byte{1, 2})
			erase, _ := impl.Erase(f, at)
			answers = append(answers, program, erase)
		}
		read, _ := impl.ReadAt(f, 0, wholeSize)
		spoil(read)
		spoil(impl.Differs(f, fresh))
		for _, a := range answers {
			spoil(a.Bytes)
			spoil(a.Wear)
		}
		checkFlash(t, "what they were made of", f, 0, was, 0)
	}
}

// A panic at any of these ends the test.
func TestFlashOfAnyArgument(t *testing.T) {
	flashes := slices.Concat(flashesOfForm()[:6], memoryFlashes(), []flashCase{
		{"one byte", impl.Flash{Bytes: []byte{1}, Wear: []int{1}}},
		{"Wear far off", flashOf(0, math.MaxInt)},
		{"Wear far below", flashOf(0, math.MinInt)},
	})
	lists := [][]byte{nil, {}, {0}, {255}, patternBytes(64), patternBytes(65), patternBytes(257), make([]byte, wholeSize), make([]byte, wholeSize+1)}
	for _, c := range flashes {
		for _, n := range edgeOffsets() {
			for _, l := range lists {
				checkTornProgram(t, c.name, c.flash, n, l, l)
				checkTornErase(t, c.name, c.flash, n, l)
				checkProgram(t, c.name, c.flash, n, l)
			}
			checkErase(t, c.name, c.flash, n)
			checkReadAt(t, c.name, c.flash, n, n)
			checkReadAt(t, c.name, c.flash, n, -n)
		}
		checkWearMost(t, c.name, c.flash)
		for _, other := range flashes {
			checkDiffers(t, c.name+" and "+other.name, c.flash, other.flash)
		}
	}
}
