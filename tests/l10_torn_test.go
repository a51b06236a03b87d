package tests

import (
	"bytes"
	"fmt"
	"math/rand/v2"
	"slices"
	"testing"

	"loop.example/g00412/impl"
)

// logStart is where the log's first half lies; logSector is the first of its sectors.
const (
	logStart       = 2560
	logSector      = 40
	placesOfSector = 8
)

// firstBits has that many bits of count bytes, from the lowest of the first one on.
func firstBits(count, bits int) []byte {
	out := make([]byte, count)
	for bit := range bits {
		out[bit/8] |= 1 << (bit % 8)
	}
	return out
}

func opposite(b []byte) []byte {
	out := slices.Clone(b)
	for i := range out {
		out[i] = 255 - out[i]
	}
	return out
}

// tornMasks: of nothing, of all, of one bit, of all but one, of those that come first or last, and drawn ones, dense and thin.
func tornMasks(r *rand.Rand, drawn int) [][]byte {
	out := [][]byte{nil, {0}, {255}, {255, 0}, {0, 255}, {0x0f}, {0xf0}, {0x55, 0xaa}, {255, 255, 255, 255, 0, 0, 0, 0}, {0, 0, 0, 0, 255, 255, 255, 255}}
	for bit := range recBits {
		one := turned(make([]byte, recSize), bit)
		first := firstBits(recSize, bit)
		out = append(out, one, opposite(one), first, opposite(first))
	}
	for range drawn {
		count := 1 + r.IntN(2*recSize)
		a, b := drawnBytes(r, count), drawnBytes(r, count)
		dense, thin := slices.Clone(a), slices.Clone(a)
		for i := range count {
			dense[i] |= b[i] | byte(r.Uint32())
			thin[i] &= b[i] & byte(r.Uint32())
		}
		out = append(out, a, dense, thin)
	}
	return out
}

// masksFor leave away just one of the bits that a record clears, or have just one of them.
func masksFor(row []byte) [][]byte {
	out := [][]byte{opposite(row), row}
	for bit := range recBits {
		if !bitOf(row[bit/8], bit%8) {
			out = append(out, turned(opposite(row), bit), turned(make([]byte, recSize), bit))
		}
	}
	return out
}

// isItselfOrNone tells which: it is the record just if the bytes are the record's.
func isItselfOrNone(t *testing.T, name string, f impl.Flash, at int, want impl.Rec) bool {
	t.Helper()
	b := f.Bytes[at : at+recSize]
	got, ok := impl.RecGet(b)
	if ok && got != want {
		t.Fatalf("%s: %+v became %+v (%x)", name, want, got, b)
	}
	if !ok && got != (impl.Rec{}) || ok != bytes.Equal(b, wantRecBytes(want)) {
		t.Fatalf("%s: %x of %+v is %+v, %v", name, b, want, got, ok)
	}
	return ok
}

func tornWrite(t *testing.T, f impl.Flash, at int, r impl.Rec, mask []byte) impl.Flash {
	t.Helper()
	torn, code := impl.TornProgram(f, at, impl.RecPut(r), mask)
	if code != impl.FlWell {
		t.Fatalf("TornProgram of %+v at %d by %x: %d", r, at, mask, code)
	}
	return torn
}

func tornErase(t *testing.T, f impl.Flash, sector int, mask []byte) impl.Flash {
	t.Helper()
	torn, code := impl.TornErase(f, sector, mask)
	if code != impl.FlWell {
		t.Fatalf("TornErase of %d by %x: %d", sector, mask, code)
	}
	return torn
}

func TestTornRecordIsItselfOrNone(t *testing.T) {
	r := anySource(112)
	blank := flashOf(255, 0)
	itself, none := 0, 0
	for i, one := range edgeRecs() {
		at := logStart + i%(2*allPlaces)*recSize
		for _, mask := range slices.Concat(tornMasks(r, 20), masksFor(wantRecBytes(one))) {
			if isItselfOrNone(t, fmt.Sprintf("written by %x", mask), tornWrite(t, blank, at, one, mask), at, one) {
				itself++
			} else {
				none++
			}
		}
	}
	if itself < 1000 || none < 1000 {
		t.Errorf("%d are themselves, %d none", itself, none)
	}
}

// Each bit that a record clears counts: as long as one is left, there is none; with the last one it is there.
func TestTornRecordBitByBit(t *testing.T) {
	r := anySource(113)
	for _, one := range edgeRecs() {
		f := flashOf(255, 0)
		var bits []int
		for bit := range recBits {
			if !bitOf(wantRecBytes(one)[bit/8], bit%8) {
				bits = append(bits, bit)
			}
		}
		if len(bits) != recBits/2 {
			t.Fatalf("%+v clears %d bits", one, len(bits))
		}
		r.Shuffle(len(bits), func(i, j int) { bits[i], bits[j] = bits[j], bits[i] })
		for i, bit := range bits {
			f = tornWrite(t, f, logStart, one, turned(make([]byte, recSize), bit))
			if isItselfOrNone(t, "bit by bit", f, logStart, one) != (i == len(bits)-1) {
				t.Fatalf("%+v with %d of %d bits", one, i+1, len(bits))
			}
		}
	}
}

// Every mask of one byte, and every one of two, on a record of each kind.
func TestTornRecordEveryShortMask(t *testing.T) {
	for _, c := range recRules() {
		for _, one := range []impl.Rec{c.least, c.most} {
			for mask := range 256 {
				isItselfOrNone(t, "one byte", tornWrite(t, flashOf(255, 0), logStart, one, []byte{byte(mask)}), logStart, one)
			}
		}
		for mask := range 1 << 16 {
			pair := []byte{byte(mask), byte(mask >> 8)}
			isItselfOrNone(t, "two bytes", tornWrite(t, flashOf(255, 0), logStart, c.most, pair), logStart, c.most)
		}
	}
}

// Torn at first, and torn when it is written once more, and when it is erased; written at last as it should, it is there.
func TestTornRecordAgainAndAgain(t *testing.T) {
	r := anySource(114)
	masks := tornMasks(r, 200)
	for range 3000 {
		one := drawnRec(r, kindHead+r.IntN(kindBack))
		sector := r.IntN(allSectors)
		f := drawnFlash(r, mostWear-10)
		f, _ = impl.Erase(f, sector)
		at := sector*sectorSize + r.IntN(sectorSize-recSize+1)
		for range 3 {
			f = tornWrite(t, f, at, one, masks[r.IntN(len(masks))])
			isItselfOrNone(t, "written again", f, at, one)
		}
		done, code := impl.Program(f, at, impl.RecPut(one))
		if code != impl.FlWell || !isItselfOrNone(t, "written at last", done, at, one) {
			t.Fatalf("%+v at %d is not there: %d", one, at, code)
		}
		for range 3 {
			f = tornErase(t, f, sector, masks[r.IntN(len(masks))])
			isItselfOrNone(t, "torn, then erased", f, at, one)
			done = tornErase(t, done, sector, masks[r.IntN(len(masks))])
			isItselfOrNone(t, "written, then erased", done, at, one)
		}
	}
}

// sectorOfRecs has eight records, one behind the other.
func sectorOfRecs(t *testing.T, sector int, records []impl.Rec) impl.Flash {
	t.Helper()
	f := flashOf(255, 0)
	for i, one := range records {
		var code int
		f, code = impl.Program(f, sector*sectorSize+i*recSize, impl.RecPut(one))
		if code != impl.FlWell {
			t.Fatalf("Program of %+v: %d", one, code)
		}
	}
	return f
}

func TestErasedRecordIsItselfOrNone(t *testing.T) {
	r := anySource(115)
	itself, none := 0, 0
	for records := range slices.Chunk(edgeRecs(), placesOfSector) {
		f := sectorOfRecs(t, logSector, records)
		masks := tornMasks(r, 20)
		for _, one := range records {
			// The bits that a record has cleared are those that an erase sets.
			masks = append(masks, masksFor(wantRecBytes(one))...)
		}
		for range 20 {
			masks = append(masks, drawnBytes(r, 1+r.IntN(mostMask)), firstBits(sectorSize, r.IntN(8*sectorSize)))
		}
		for _, mask := range masks {
			torn := tornErase(t, f, logSector, mask)
			for i, one := range records {
				if isItselfOrNone(t, fmt.Sprintf("erased by %x", mask), torn, logStart+i*recSize, one) {
					itself++
				} else {
					none++
				}
			}
		}
		erased, _ := impl.Erase(f, logSector)
		for i, one := range records {
			if isItselfOrNone(t, "erased", erased, logStart+i*recSize, one) {
				t.Fatalf("%+v is still there", one)
			}
		}
	}
	if itself < 1000 || none < 1000 {
		t.Errorf("%d are themselves, %d none", itself, none)
	}
}

// A half whose next record is torn tells those ahead of it, and that one or none; its place is used as soon as a bit is cleared.
func TestScanOfTornRecord(t *testing.T) {
	r := anySource(116)
	for _, mask := range tornMasks(r, 100) {
		f := flashOf(255, 0)
		var records []impl.Rec
		for place := range allPlaces {
			at := logStart + place*recSize
			one := drawnRec(r, kindHead+r.IntN(kindBack))
			torn := tornWrite(t, f, at, one, mask)
			want, used := records, place
			if isItselfOrNone(t, "in a half", torn, at, one) {
				want = append(slices.Clone(records), one)
			}
			if !impl.Blank(torn, at, recSize) {
				used++
			}
			half, _ := impl.ReadAt(torn, logStart, halfSize)
			if got, count := impl.Scan(half); count != used || !slices.Equal(got, want) {
				t.Fatalf("%+v at %d by %x: %v, %d, want %v, %d", one, place, mask, got, count, want, used)
			}
			records = append(records, one)
			f, _ = impl.Program(f, at, impl.RecPut(one))
		}
	}
}
