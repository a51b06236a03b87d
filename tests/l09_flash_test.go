package tests

import (
	"bytes"
	"fmt"
	"math"
	"math/rand/v2"
	"slices"
	"testing"

	"loop.example/g00412/impl"
)

// The limits as the chapter tells them, in numbers of their own.
const (
	allSectors  = 48
	sectorSize  = 64
	wholeSize   = 3072
	mostWear    = 200
	mostMask    = 256
	lastSector  = 47
	lastByte    = 3071
	drawnCopies = 4
)

// flashCase is a flash with a name.
type flashCase struct {
	name  string
	flash impl.Flash
}

func flashOf(b byte, wear int) impl.Flash {
	return impl.Flash{Bytes: bytes.Repeat([]byte{b}, wholeSize), Wear: slices.Repeat([]int{wear}, allSectors)}
}

func copyFlash(f impl.Flash) impl.Flash {
	return impl.Flash{Bytes: slices.Clone(f.Bytes), Wear: slices.Clone(f.Wear)}
}

func sameFlash(a, b impl.Flash) bool {
	return bytes.Equal(a.Bytes, b.Bytes) && slices.Equal(a.Wear, b.Wear)
}

func drawnBytes(r *rand.Rand, count int) []byte {
	out := make([]byte, count)
	for i := range out {
		out[i] = byte(r.Uint32())
	}
	return out
}

// drawnFlash can be erased anywhere: no Wear is above most.
func drawnFlash(r *rand.Rand, most int) impl.Flash {
	f := impl.Flash{Bytes: drawnBytes(r, wholeSize)}
	for range allSectors {
		f.Wear = append(f.Wear, r.IntN(most+1))
	}
	return f
}

// manyFlashes are all FlashOk, and two erases of any sector are well.
func manyFlashes() []flashCase {
	r := anySource(9)
	stripes := flashOf(0x55, 0)
	for i := range stripes.Bytes {
		stripes.Bytes[i] = byte(i*7 + i/sectorSize)
	}
	for i := range stripes.Wear {
		stripes.Wear[i] = 4 * i
	}
	out := []flashCase{
		{"blank", flashOf(255, 0)},
		{"full of noughts", flashOf(0, 0)},
		{"blank, worn nearly all", flashOf(255, mostWear-2)},
		{"noughts, worn nearly all", flashOf(0, mostWear-2)},
		{"every other bit", flashOf(0xaa, 1)},
		{"stripes", stripes},
	}
	for i := range drawnCopies {
		out = append(out, flashCase{fmt.Sprintf("drawn %d", i), drawnFlash(r, mostWear-2)})
	}
	return out
}

func mixedFlash() impl.Flash { return drawnFlash(anySource(90), mostWear-2) }

func wantFlashOk(f impl.Flash) bool {
	fine := len(f.Bytes) == wholeSize && len(f.Wear) == allSectors
	for _, n := range f.Wear {
		fine = fine && within(n, 0, mostWear)
	}
	return fine
}

// wantPlace adds in uint64, where two that are not below 0 always have a sum.
func wantPlace(at, n int) bool { return at >= 0 && n >= 0 && uint64(at)+uint64(n) <= wholeSize }

// wantCross counts the sectors in which a place of the flash has a byte.
func wantCross(at, n int) bool {
	met := map[int]bool{}
	for i := range n {
		met[(at+i)/sectorSize] = true
	}
	return len(met) > 1
}

func bitOf(b byte, bit int) bool { return b>>bit&1 == 1 }

func maskBit(mask []byte, i, bit int) bool {
	return len(mask) > 0 && bitOf(mask[i%len(mask)], bit)
}

func wantTornProgram(f impl.Flash, at int, b, mask []byte) (impl.Flash, int) {
	if !wantFlashOk(f) || len(mask) > mostMask {
		return impl.Flash{}, impl.FlForm
	}
	out := copyFlash(f)
	if !wantPlace(at, len(b)) {
		return out, impl.FlAt
	}
	if wantCross(at, len(b)) {
		return out, impl.FlCross
	}
	for i := range b {
		for bit := range 8 {
			if !bitOf(b[i], bit) && maskBit(mask, i, bit) && bitOf(out.Bytes[at+i], bit) {
				out.Bytes[at+i] -= 1 << bit
			}
		}
	}
	return out, impl.FlWell
}

func wantTornErase(f impl.Flash, sector int, mask []byte) (impl.Flash, int) {
	if !wantFlashOk(f) || len(mask) > mostMask {
		return impl.Flash{}, impl.FlForm
	}
	out := copyFlash(f)
	if !within(sector, 0, lastSector) {
		return out, impl.FlAt
	}
	if out.Wear[sector] == mostWear {
		return out, impl.FlWorn
	}
	out.Wear[sector]++
	for i := range sectorSize {
		for bit := range 8 {
			if maskBit(mask, i, bit) && !bitOf(out.Bytes[sector*sectorSize+i], bit) {
				out.Bytes[sector*sectorSize+i] += 1 << bit
			}
		}
	}
	return out, impl.FlWell
}

// tell names a list that may be long.
func tell(l []byte) string {
	if len(l) > 8 {
		return fmt.Sprintf("%x.. (%d bytes)", l[:8], len(l))
	}
	return fmt.Sprintf("%x", l)
}

// checkFlash tells where a flash is another one, as it is too long to be shown.
func checkFlash(t *testing.T, name string, got impl.Flash, code int, want impl.Flash, wantCode int) {
	t.Helper()
	if code != wantCode {
		t.Fatalf("%s: code %d, want %d", name, code, wantCode)
	}
	if sameFlash(got, want) {
		return
	}
	if len(got.Bytes) != len(want.Bytes) || len(got.Wear) != len(want.Wear) {
		t.Fatalf("%s: %d bytes and %d Wear, want %d and %d", name, len(got.Bytes), len(got.Wear), len(want.Bytes), len(want.Wear))
	}
	for i := range want.Bytes {
		if got.Bytes[i] != want.Bytes[i] {
			t.Fatalf("%s: byte %d is %x, want %x", name, i, got.Bytes[i], want.Bytes[i])
		}
	}
	t.Fatalf("%s: Wear %v, want %v", name, got.Wear, want.Wear)
}

func checkTornProgram(t *testing.T, name string, f impl.Flash, at int, b, mask []byte) {
	t.Helper()
	got, code := impl.TornProgram(f, at, b, mask)
	want, wantCode := wantTornProgram(f, at, b, mask)
	checkFlash(t, fmt.Sprintf("%s: TornProgram at %d of %s by %s", name, at, tell(b), tell(mask)), got, code, want, wantCode)
}

func checkTornErase(t *testing.T, name string, f impl.Flash, sector int, mask []byte) {
	t.Helper()
	got, code := impl.TornErase(f, sector, mask)
	want, wantCode := wantTornErase(f, sector, mask)
	checkFlash(t, fmt.Sprintf("%s: TornErase of %d by %s", name, sector, tell(mask)), got, code, want, wantCode)
}

// checkProgram asks Program, and TornProgram with the mask that it stands for.
func checkProgram(t *testing.T, name string, f impl.Flash, at int, b []byte) {
	t.Helper()
	got, code := impl.Program(f, at, b)
	want, wantCode := wantTornProgram(f, at, b, []byte{255})
	checkFlash(t, fmt.Sprintf("%s: Program at %d of %s", name, at, tell(b)), got, code, want, wantCode)
	checkTornProgram(t, name, f, at, b, []byte{255})
}

func checkErase(t *testing.T, name string, f impl.Flash, sector int) {
	t.Helper()
	got, code := impl.Erase(f, sector)
	want, wantCode := wantTornErase(f, sector, []byte{255})
	checkFlash(t, fmt.Sprintf("%s: Erase of %d", name, sector), got, code, want, wantCode)
	checkTornErase(t, name, f, sector, []byte{255})
}

func TestFlashConstants(t *testing.T) {
	got := []int{impl.Sectors, impl.SectorBytes, impl.MaxWear, impl.FlWell, impl.FlAt, impl.FlCross, impl.FlWorn, impl.FlForm}
	if want := []int{48, 64, 200, 0, 1, 2, 3, 4}; !slices.Equal(got, want) {
		t.Errorf("constants %v, want %v", got, want)
	}
}

func TestFlashNew(t *testing.T) {
	if f := impl.FlashNew(); !sameFlash(f, flashOf(255, 0)) {
		t.Errorf("FlashNew: %d bytes, Wear %v", len(f.Bytes), f.Wear)
	}
	checkCall(t, "FlashNew", 0, func(int) impl.Flash { return impl.FlashNew() })
}

// flashesOfForm are FlashOk or not, at the edges of it.
func flashesOfForm() []flashCase {
	out := []flashCase{
		{"nothing", impl.Flash{}},
		{"empty lists", impl.Flash{Bytes: []byte{}, Wear: []int{}}},
		{"no Bytes", impl.Flash{Wear: make([]int, allSectors)}},
		{"no Wear", impl.Flash{Bytes: make([]byte, wholeSize)}},
		{"as many Bytes as sectors", impl.Flash{Bytes: make([]byte, allSectors), Wear: make([]int, allSectors)}},
		{"as many Wear as bytes", impl.Flash{Bytes: make([]byte, wholeSize), Wear: make([]int, wholeSize)}},
	}
	for _, count := range []int{1, sectorSize, wholeSize - sectorSize, wholeSize - 1, wholeSize, wholeSize + 1, wholeSize + sectorSize} {
		f := impl.Flash{Bytes: bytes.Repeat([]byte{255}, count), Wear: make([]int, allSectors)}
		out = append(out, flashCase{fmt.Sprintf("%d Bytes", count), f})
	}
	for _, count := range []int{1, allSectors - 1, allSectors, allSectors + 1} {
		f := impl.Flash{Bytes: bytes.Repeat([]byte{255}, wholeSize), Wear: make([]int, count)}
		out = append(out, flashCase{fmt.Sprintf("%d Wear", count), f})
	}
	return append(out, flashesOfWear()...)
}

func flashesOfWear() []flashCase {
	var out []flashCase
	for _, wear := range []int{math.MinInt, -1, 0, 1, mostWear - 1, mostWear, mostWear + 1, 256, 1 << 32, math.MaxInt} {
		for _, sector := range []int{0, 1, 23, lastSector - 1, lastSector} {
			f := mixedFlash()
			f.Wear[sector] = wear
			out = append(out, flashCase{fmt.Sprintf("Wear %d of %d", wear, sector), f})
		}
		out = append(out, flashCase{fmt.Sprintf("Wear %d of all", wear), flashOf(255, wear)})
	}
	return out
}

func TestFlashOk(t *testing.T) {
	well := 0
	for _, c := range slices.Concat(flashesOfForm(), manyFlashes()) {
		want := wantFlashOk(c.flash)
		if got := impl.FlashOk(c.flash); got != want {
			t.Errorf("%s: FlashOk %v", c.name, got)
		}
		if want {
			well++
		}
	}
	if want := 2 + 4*6 + 6 + drawnCopies; well != want {
		t.Errorf("%d of them are FlashOk, want %d", well, want)
	}
}

// What is no flash is refused by all, with the answer that each has for it; what is one is not.
func TestFlashForm(t *testing.T) {
	for _, c := range flashesOfForm() {
		checkProgram(t, c.name, c.flash, 0, []byte{1, 2, 3})
		checkErase(t, c.name, c.flash, 1)
		checkReadAt(t, c.name, c.flash, 0, 0)
		checkReadAt(t, c.name, c.flash, 0, 10)
		checkWearMost(t, c.name, c.flash)
		checkDiffers(t, c.name, c.flash, flashOf(0x5a, 0))
		checkDiffers(t, c.name, flashOf(0x5a, 0), c.flash)
		checkDiffers(t, c.name, c.flash, c.flash)
	}
}

// checkReadAt asks for what ReadAt and Blank tell of a place.
func checkReadAt(t *testing.T, name string, f impl.Flash, at, n int) {
	t.Helper()
	var want []byte
	wantCode := impl.FlWell
	switch {
	case !wantFlashOk(f):
		wantCode = impl.FlForm
	case !wantPlace(at, n):
		wantCode = impl.FlAt
	default:
		want = f.Bytes[at : at+n]
	}
	if got, code := impl.ReadAt(f, at, n); code != wantCode || !bytes.Equal(got, want) {
		t.Fatalf("%s: ReadAt %d, %d = %s, %d, want %s, %d", name, at, n, tell(got), code, tell(want), wantCode)
	}
	wantBlank := wantCode == impl.FlWell && bytes.Count(want, []byte{255}) == n
	if got := impl.Blank(f, at, n); got != wantBlank {
		t.Fatalf("%s: Blank %d, %d = %v", name, at, n, got)
	}
}

// edgeOffsets are places and lengths alike: many two of them have a sum past the greatest int.
func edgeOffsets() []int {
	return []int{
		math.MinInt, math.MinInt + 1, math.MinInt + wholeSize, -wholeSize, -sectorSize, -2, -1,
		0, 1, 2, 62, 63, 64, 65, 127, 128, 129, 1000, 3007, 3008, 3009, lastByte - 1, lastByte, wholeSize, wholeSize + 1,
		wholeSize + sectorSize, 1 << 31, 1 << 32, 1 << 62, math.MaxInt - wholeSize, math.MaxInt - lastByte, math.MaxInt - 63,
		math.MaxInt - 1, math.MaxInt,
	}
}

func TestReadAtPlaces(t *testing.T) {
	for _, c := range []flashCase{{"blank", flashOf(255, 3)}, {"drawn", mixedFlash()}, {"none", impl.Flash{}}} {
		for _, at := range edgeOffsets() {
			for _, n := range edgeOffsets() {
				checkReadAt(t, c.name, c.flash, at, n)
			}
			// The length that goes to the very end, and those beside it.
			for _, n := range []int{wholeSize - at - 1, wholeSize - at, wholeSize - at + 1} {
				checkReadAt(t, c.name, c.flash, at, n)
			}
		}
	}
}

func TestReadAtNamedEdges(t *testing.T) {
	f := mixedFlash()
	cases := []struct{ at, n, code int }{
		{-1, 0, impl.FlAt}, {-1, 1, impl.FlAt}, {0, -1, impl.FlAt}, {1, -1, impl.FlAt}, {-1, -1, impl.FlAt},
		{0, 0, impl.FlWell}, {0, 1, impl.FlWell}, {0, wholeSize, impl.FlWell}, {0, wholeSize + 1, impl.FlAt},
		{1, wholeSize - 1, impl.FlWell}, {1, wholeSize, impl.FlAt},
		{lastByte, 0, impl.FlWell}, {lastByte, 1, impl.FlWell}, {lastByte, 2, impl.FlAt},
		{wholeSize, 0, impl.FlWell}, {wholeSize, 1, impl.FlAt}, {wholeSize, -1, impl.FlAt},
		{wholeSize + 1, 0, impl.FlAt}, {wholeSize + 1, -1, impl.FlAt},
		{math.MaxInt, 1, impl.FlAt}, {1, math.MaxInt, impl.FlAt}, {math.MaxInt, math.MaxInt, impl.FlAt},
		{math.MinInt, math.MinInt, impl.FlAt}, {math.MinInt, math.MaxInt, impl.FlAt},
	}
	for _, c := range cases {
		if _, code := impl.ReadAt(f, c.at, c.n); code != c.code {
			t.Errorf("ReadAt %d, %d: %d, want %d", c.at, c.n, code, c.code)
		}
		if got := impl.Blank(flashOf(255, 0), c.at, c.n); got != (c.code == impl.FlWell) {
			t.Errorf("Blank %d, %d: %v", c.at, c.n, got)
		}
		checkReadAt(t, "drawn", f, c.at, c.n)
	}
}

// One bit that is 0 tells, wherever it is, just in the places that have its byte.
func TestBlankOneBit(t *testing.T) {
	for _, spot := range []int{0, 1, 63, 64, 1000, lastByte - 1, lastByte} {
		for bit := range 8 {
			f := flashOf(255, 0)
			f.Bytes[spot] -= 1 << bit
			for _, from := range []int{0, spot - 1, spot, spot + 1} {
				for _, to := range []int{spot, spot + 1, spot + 2, wholeSize} {
					checkReadAt(t, "one bit", f, from, to-from)
				}
			}
			if impl.Blank(f, spot, 1) || !impl.Blank(f, 0, spot) || !impl.Blank(f, spot+1, lastByte-spot) {
				t.Errorf("the bit %d of %d", bit, spot)
			}
		}
	}
}

// drawnWrites lie in one sector each, at its ends and within.
func drawnWrites(r *rand.Rand, sector int) []write {
	from := sector * sectorSize
	offset := r.IntN(sectorSize)
	return []write{
		{from, drawnBytes(r, sectorSize)},
		{from, drawnBytes(r, 1)},
		{from + sectorSize - 1, drawnBytes(r, 1)},
		{from + offset, drawnBytes(r, 1+r.IntN(sectorSize-offset))},
		{from + offset, nil},
		{from + 3, make([]byte, 20)},
		{from + 5, bytes.Repeat([]byte{255}, 20)},
	}
}

type write struct {
	at int
	b  []byte
}

func TestProgramClearsAlone(t *testing.T) {
	r := anySource(91)
	for _, c := range manyFlashes() {
		for sector := range allSectors {
			for _, w := range drawnWrites(r, sector) {
				got, code := impl.Program(c.flash, w.at, w.b)
				want := copyFlash(c.flash)
				for i, b := range w.b {
					want.Bytes[w.at+i] = c.flash.Bytes[w.at+i] & b
				}
				checkFlash(t, fmt.Sprintf("%s: Program at %d", c.name, w.at), got, code, want, impl.FlWell)
				checkProgram(t, c.name, c.flash, w.at, w.b)
			}
		}
	}
}

func TestProgramEveryPairOfBytes(t *testing.T) {
	for was := range 256 {
		f := flashOf(byte(was), 0)
		for from := 0; from < 256; from += sectorSize {
			b := make([]byte, sectorSize)
			for i := range b {
				b[i] = byte(from + i)
			}
			got, code := impl.Program(f, 128, b)
			want := copyFlash(f)
			for i := range b {
				want.Bytes[128+i] = byte(was) & b[i]
			}
			checkFlash(t, fmt.Sprintf("%d by %d on", was, from), got, code, want, impl.FlWell)
		}
	}
}

func TestEraseSetsAlone(t *testing.T) {
	for _, c := range manyFlashes() {
		for sector := range allSectors {
			got, code := impl.Erase(c.flash, sector)
			want := copyFlash(c.flash)
			for i := range sectorSize {
				want.Bytes[sector*sectorSize+i] = 255
			}
			want.Wear[sector] = c.flash.Wear[sector] + 1
			checkFlash(t, fmt.Sprintf("%s: Erase of %d", c.name, sector), got, code, want, impl.FlWell)
			checkErase(t, c.name, c.flash, sector)
		}
	}
}

// What is programmed is read, wherever the bytes were blank; what is erased is blank.
func TestProgramIsRead(t *testing.T) {
	r := anySource(92)
	f := impl.FlashNew()
	for sector := range allSectors {
		b := drawnBytes(r, sectorSize)
		written, code := impl.Program(f, sector*sectorSize, b)
		got, readCode := impl.ReadAt(written, sector*sectorSize, sectorSize)
		if code != impl.FlWell || readCode != impl.FlWell || !bytes.Equal(got, b) {
			t.Fatalf("sector %d: %x, want %x", sector, got, b)
		}
		erased, code := impl.Erase(written, sector)
		if code != impl.FlWell || !impl.Blank(erased, sector*sectorSize, sectorSize) || !bytes.Equal(erased.Bytes, f.Bytes) {
			t.Fatalf("sector %d is not blank", sector)
		}
		f = written
		f.Wear[sector] = sector
	}
}

func TestProgramPlaces(t *testing.T) {
	f := mixedFlash()
	r := anySource(93)
	for _, at := range edgeOffsets() {
		for _, n := range []int{0, 1, 2, 63, 64, 65, 128, lastByte, wholeSize, wholeSize + 1} {
			checkProgram(t, "drawn", f, at, drawnBytes(r, n))
			checkTornProgram(t, "drawn", f, at, drawnBytes(r, n), drawnBytes(r, 3))
			checkTornProgram(t, "drawn", f, at, drawnBytes(r, n), nil)
		}
	}
}

func TestProgramNamedEdges(t *testing.T) {
	f := mixedFlash()
	cases := []struct{ at, n, code int }{
		{-1, 0, impl.FlAt}, {-1, 1, impl.FlAt}, {-1, 2, impl.FlAt}, {-64, 1, impl.FlAt},
		{0, 0, impl.FlWell}, {0, 1, impl.FlWell}, {0, 64, impl.FlWell}, {0, 65, impl.FlCross}, {0, wholeSize, impl.FlCross},
		{0, wholeSize + 1, impl.FlAt}, {1, wholeSize, impl.FlAt},
		{1, 63, impl.FlWell}, {1, 64, impl.FlCross},
		{63, 0, impl.FlWell}, {63, 1, impl.FlWell}, {63, 2, impl.FlCross}, {64, 0, impl.FlWell}, {64, 1, impl.FlWell},
		{64, 64, impl.FlWell}, {64, 65, impl.FlCross}, {62, 3, impl.FlCross},
		{3008, 64, impl.FlWell}, {3008, 65, impl.FlAt}, {3007, 64, impl.FlCross}, {3007, 65, impl.FlCross}, {3007, 66, impl.FlAt},
		{lastByte, 0, impl.FlWell}, {lastByte, 1, impl.FlWell}, {lastByte, 2, impl.FlAt},
		{wholeSize, 0, impl.FlWell}, {wholeSize, 1, impl.FlAt}, {wholeSize + 1, 0, impl.FlAt}, {wholeSize + 1, 1, impl.FlAt},
		{math.MaxInt, 0, impl.FlAt}, {math.MaxInt, 1, impl.FlAt}, {math.MaxInt - 1, 3, impl.FlAt}, {math.MinInt, 0, impl.FlAt}, {math.MinInt, 64, impl.FlAt},
	}
	for _, c := range cases {
		got, code := impl.Program(f, c.at, make([]byte, c.n))
		if code != c.code || code != impl.FlWell && !sameFlash(got, f) {
			t.Errorf("Program at %d of %d: %d, want %d", c.at, c.n, code, c.code)
		}
		checkProgram(t, "drawn", f, c.at, make([]byte, c.n))
	}
}

// A write of no byte is well at each place, also right behind the last byte, and turns nothing.
func TestProgramNoByte(t *testing.T) {
	f := mixedFlash()
	for at := -2; at <= wholeSize+2; at++ {
		for _, b := range [][]byte{nil, {}} {
			got, code := impl.Program(f, at, b)
			want := impl.FlWell
			if at < 0 || at > wholeSize {
				want = impl.FlAt
			}
			checkFlash(t, fmt.Sprintf("no byte at %d", at), got, code, f, want)
		}
	}
}

func TestProgramBorders(t *testing.T) {
	f := mixedFlash()
	r := anySource(94)
	for sector := range allSectors {
		from := sector * sectorSize
		for _, w := range []write{{from, drawnBytes(r, 64)}, {from, drawnBytes(r, 1)}, {from + 63, drawnBytes(r, 1)}, {from + 30, drawnBytes(r, 34)}} {
			if _, code := impl.Program(f, w.at, w.b); code != impl.FlWell {
				t.Errorf("Program at %d of %d: %d", w.at, len(w.b), code)
			}
			checkProgram(t, "in a sector", f, w.at, w.b)
		}
		past := impl.FlCross
		if sector == lastSector {
			past = impl.FlAt
		}
		for _, w := range []write{{from, drawnBytes(r, 65)}, {from + 63, drawnBytes(r, 2)}, {from + 30, drawnBytes(r, 35)}, {from + 1, drawnBytes(r, 64)}} {
			got, code := impl.Program(f, w.at, w.b)
			checkFlash(t, fmt.Sprintf("over the border: at %d of %d", w.at, len(w.b)), got, code, f, past)
		}
	}
}

func TestEraseSectors(t *testing.T) {
	f := mixedFlash()
	cases := []struct{ sector, code int }{
		{-1, impl.FlAt}, {0, impl.FlWell}, {1, impl.FlWell}, {lastSector, impl.FlWell}, {allSectors, impl.FlAt}, {allSectors + 1, impl.FlAt},
		{math.MinInt, impl.FlAt}, {math.MaxInt, impl.FlAt}, {wholeSize, impl.FlAt}, {-allSectors, impl.FlAt},
		// Times how many bytes a sector has these are the place 0 or 64 again.
		{1 << 58, impl.FlAt}, {1<<58 + 1, impl.FlAt}, {-1 << 58, impl.FlAt}, {1 << 32, impl.FlAt},
	}
	for _, c := range cases {
		got, code := impl.Erase(f, c.sector)
		if code != c.code || code != impl.FlWell && !sameFlash(got, f) {
			t.Errorf("Erase of %d: %d, want %d", c.sector, code, c.code)
		}
		checkErase(t, "drawn", f, c.sector)
		checkTornErase(t, "drawn", f, c.sector, nil)
		checkTornErase(t, "drawn", f, c.sector, []byte{1, 2, 3})
	}
}

func TestEraseWear(t *testing.T) {
	codes := map[int]int{-1: impl.FlForm, 0: impl.FlWell, 1: impl.FlWell, mostWear - 1: impl.FlWell, mostWear: impl.FlWorn, mostWear + 1: impl.FlForm}
	for wear, want := range codes {
		for sector := range allSectors {
			f := mixedFlash()
			f.Wear[sector] = wear
			got, code := impl.Erase(f, sector)
			if code != want {
				t.Fatalf("Erase with Wear %d: %d, want %d", wear, code, want)
			}
			if code == impl.FlWell && got.Wear[sector] != wear+1 {
				t.Fatalf("Wear %d became %d", wear, got.Wear[sector])
			}
			for _, mask := range [][]byte{nil, {0}, {255}, {1, 128}} {
				checkTornErase(t, fmt.Sprintf("Wear %d", wear), f, sector, mask)
			}
			checkErase(t, fmt.Sprintf("Wear %d", wear), f, sector)
		}
	}
}

// A sector that is worn is worn for itself: all others are erased still, and it can still be programmed.
func TestWornSector(t *testing.T) {
	f := impl.FlashNew()
	for i := range mostWear {
		var code int
		if f, code = impl.Erase(f, 5); code != impl.FlWell || f.Wear[5] != i+1 || impl.WearMost(f) != i+1 {
			t.Fatalf("erased %d times: %d, Wear %d", i, code, f.Wear[5])
		}
	}
	got, code := impl.Erase(f, 5)
	checkFlash(t, "one more", got, code, f, impl.FlWorn)
	for sector := range allSectors {
		checkErase(t, "one is worn", f, sector)
	}
	checkProgram(t, "worn", f, 5*sectorSize, make([]byte, sectorSize))
	all := flashOf(0x3c, mostWear)
	checkProgram(t, "all are worn", all, 64, []byte{0xf0, 0x0f})
	for sector := -1; sector <= allSectors; sector++ {
		checkErase(t, "all are worn", all, sector)
	}
}

func checkWearMost(t *testing.T, name string, f impl.Flash) {
	t.Helper()
	want := 0
	if wantFlashOk(f) {
		for _, n := range f.Wear {
			want = max(want, n)
		}
	}
	if got := impl.WearMost(f); got != want {
		t.Fatalf("%s: WearMost %d, want %d", name, got, want)
	}
}

func TestWearMost(t *testing.T) {
	for _, c := range manyFlashes() {
		checkWearMost(t, c.name, c.flash)
	}
	for _, least := range []int{0, 1, 100} {
		for sector := range allSectors {
			for _, wear := range []int{least, least + 1, mostWear - 1, mostWear} {
				f := flashOf(255, least)
				f.Wear[sector] = wear
				if got := impl.WearMost(f); got != wear {
					t.Errorf("WearMost %d, want %d", got, wear)
				}
			}
			f := flashOf(255, mostWear)
			f.Wear[sector] = least
			checkWearMost(t, "one less", f)
			f.Wear[sector] = mostWear + 1
			if got := impl.WearMost(f); got != 0 {
				t.Errorf("WearMost of no flash is %d", got)
			}
		}
	}
}

func wantDiffers(a, b impl.Flash) []int {
	if !wantFlashOk(a) || !wantFlashOk(b) {
		return nil
	}
	var out []int
	for i := range wholeSize {
		if sector := i / sectorSize; a.Bytes[i] != b.Bytes[i] && !slices.Contains(out, sector) {
			out = append(out, sector)
		}
	}
	return out
}

func checkDiffers(t *testing.T, name string, a, b impl.Flash) {
	t.Helper()
	want := wantDiffers(a, b)
	if got := impl.Differs(a, b); !slices.Equal(got, want) {
		t.Fatalf("%s: Differs %v, want %v", name, got, want)
	}
	if got := impl.Differs(b, a); !slices.Equal(got, want) {
		t.Fatalf("%s: Differs the other way round %v, want %v", name, got, want)
	}
}

func TestDiffersSectors(t *testing.T) {
	var all []int
	for sector := range allSectors {
		all = append(all, sector)
	}
	cases := [][]int{nil, {0}, {lastSector}, {0, lastSector}, {1}, {23}, {lastSector - 1}, {0, 1, 2}, all[1:], all[:lastSector], all}
	for _, sectors := range cases {
		for _, offset := range []int{0, 1, 31, 62, 63} {
			for bit := range 8 {
				a := mixedFlash()
				b := copyFlash(a)
				for _, sector := range sectors {
					b.Bytes[sector*sectorSize+offset] ^= 1 << bit
				}
				if got := impl.Differs(a, b); !slices.Equal(got, sectors) {
					t.Fatalf("Differs %v, want %v", got, sectors)
				}
				checkDiffers(t, "one bit", a, b)
			}
		}
	}
}

func TestDiffersOfMany(t *testing.T) {
	r := anySource(95)
	cases := manyFlashes()
	for _, a := range cases {
		for _, b := range cases {
			checkDiffers(t, a.name+" and "+b.name, a.flash, b.flash)
		}
		for range 10 {
			b := copyFlash(a.flash)
			for range r.IntN(8) {
				b.Bytes[r.IntN(wholeSize)] ^= byte(r.Uint32())
			}
			checkDiffers(t, a.name, a.flash, b)
		}
	}
}

func TestDiffersNotByWear(t *testing.T) {
	a := mixedFlash()
	for _, wear := range []int{0, 1, mostWear} {
		b := impl.Flash{Bytes: slices.Clone(a.Bytes), Wear: slices.Repeat([]int{wear}, allSectors)}
		if got := impl.Differs(a, b); len(got) > 0 {
			t.Errorf("other wear alone: Differs %v", got)
		}
		b.Bytes[100] ^= 4
		if got := impl.Differs(a, b); !slices.Equal(got, []int{1}) {
			t.Errorf("other wear and one byte: Differs %v", got)
		}
	}
}
