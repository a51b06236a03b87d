package tests

import (
	"bytes"
	"fmt"
	"slices"
	"testing"

	"loop.example/g00412/impl"
)

// acting is one of the three actions, all but its cut being settled.
type acting func(cut impl.Cut) (impl.Device, impl.Reply)

func installing(d impl.Device, p parcel) acting {
	return func(cut impl.Cut) (impl.Device, impl.Reply) { return impl.Install(d, p.env, p.datas, cut) }
}

func poweringOn(d impl.Device) acting {
	return func(cut impl.Cut) (impl.Device, impl.Reply) { return impl.PowerOn(d, cut) }
}

func confirming(d impl.Device) acting {
	return func(cut impl.Cut) (impl.Device, impl.Reply) { return impl.Confirm(d, cut) }
}

// orderMasks: an operation of no bits is told from none by its wear and its count, one of all bits is done.
func orderMasks() [][]byte { return [][]byte{nil, {255}, {0x3c, 0xc3, 0x99}} }

// checkOperations wants just these operations, one behind the other: the flash is looked at, the power going at each of them and past all.
func checkOperations(t *testing.T, name string, d impl.Device, do acting, ops []op, end impl.Reply) {
	t.Helper()
	end.Ops = len(ops)
	f := d.Flash
	for i, o := range ops {
		for _, mask := range orderMasks() {
			torn, _ := o.done(f, mask)
			want := impl.Device{Id: d.Id, Keys: d.Keys, Flash: torn}
			got, reply := do(impl.Cut{Ops: i, Mask: mask})
			checkActed(t, fmt.Sprintf("%s: %s, the operation %d by %s", name, o, i, tell(mask)), got, reply, want, impl.Reply{Code: impl.DvCrash, Ops: i + 1})
		}
		f, _ = o.done(f, []byte{255})
	}
	for _, at := range []int{uncut, len(ops), len(ops) + 1, mostCut} {
		got, reply := do(impl.Cut{Ops: at, Mask: []byte{0x3c}})
		checkActed(t, fmt.Sprint(name, ": cut at ", at), got, reply, impl.Device{Id: d.Id, Keys: d.Keys, Flash: f}, end)
	}
}

// sizedParcel has no needs, and no part of a kind whose size is 0.
func sizedParcel(number, floor int, sizes ...int) parcel {
	return parcelOfSizes(anySource(uint64(1200+number)), number, floor, [mostParts]int(sizes), 0)
}

// dirtied has noughts in the bank, so that each erase is seen.
func dirtied(d impl.Device, bank int) impl.Device {
	clear(d.Flash.Bytes[bank*bankSize : (bank+1)*bankSize])
	return d
}

// The operations of an Install, each written out.
func TestInstallOperations(t *testing.T) {
	t.Parallel()
	old := sizedParcel(3, 2, 5, 0, 0, 0)
	// One that fills its sectors, one that goes a byte past a sector, none, and one that fills just one.
	p := sizedParcel(4, 2, 192, 65, 0, 64)
	if count := len(p.env) + 2; !within(count, 129, 192) {
		t.Fatalf("the envelope and its length have %d bytes", count)
	}
	d := dirtied(laidDevice(bootOf(0, 3, 2), old, old, 0, 5, 9), 1)
	head := p.bankBytes()
	ops := erasesOf(20, 20)
	ops = append(ops,
		programOf(1792, p.datas[0][:64]), programOf(1856, p.datas[0][64:128]), programOf(1920, p.datas[0][128:]),
		programOf(1984, p.datas[1][:64]), programOf(2048, p.datas[1][64:]),
		programOf(2368, p.datas[2]),
		programOf(1280, head[:64]), programOf(1344, head[64:128]), programOf(1408, head[128:]),
		programOf(2560+9*8, impl.RecPut(impl.Rec{Kind: impl.RkCommit, Bank: 1, Number: 4})))
	checkOperations(t, "into the bank 1", d, installing(d, p), ops, impl.Reply{Bank: 1, Number: 4})
}

// The same into the bank 0, of all kinds, the record coming into the last place of the second half.
func TestInstallOperationsOfAllKinds(t *testing.T) {
	t.Parallel()
	old, p := sizedParcel(3, 2, 5, 0, 0, 0), sizedParcel(5, 2, 1, 63, 128, 129)
	d := dirtied(laidDevice(bootOf(1, 3, 2), old, old, 1, 5, 31), 0)
	head := p.bankBytes()
	ops := erasesOf(0, 20)
	ops = append(ops,
		programOf(512, p.datas[0]), programOf(704, p.datas[1]),
		programOf(896, p.datas[2][:64]), programOf(960, p.datas[2][64:]),
		programOf(1088, p.datas[3][:64]), programOf(1152, p.datas[3][64:128]), programOf(1216, p.datas[3][128:]))
	for i, piece := range slices.Collect(slices.Chunk(head, 64)) {
		ops = append(ops, programOf(64*i, piece))
	}
	ops = append(ops, programOf(2816+31*8, impl.RecPut(impl.Rec{Kind: impl.RkCommit, Bank: 0, Number: 5})))
	checkOperations(t, "into the bank 0", d, installing(d, p), ops, impl.Reply{Bank: 0, Number: 5})
}

// How many operations there are, where the envelope ends beside the end of a sector.
func TestInstallCounts(t *testing.T) {
	t.Parallel()
	old := sizedParcel(3, 2, 5, 0, 0, 0)
	for _, length := range []int{126, 127, 190, 191, 254, 255, 256} {
		p := parcelOfLength(anySource(uint64(1210+length)), 4, 2, length)
		d := laidDevice(bootOf(0, 3, 2), old, old, 0, 5, 9)
		want := 20 + (length+2+63)/64 + 1
		for _, part := range p.bundle.Parts {
			want += (part.Size + 63) / 64
		}
		after, reply := checkInstall(t, fmt.Sprint(length, " bytes"), d, p, impl.Cut{Ops: uncut})
		if reply != (impl.Reply{Bank: 1, Number: 4, Ops: want}) {
			t.Errorf("an envelope of %d bytes: %+v, want %d operations", length, reply, want)
		}
		checkInstalled(t, fmt.Sprint(length, " bytes"), after, 1, p)
	}
}

// turnOps: the half is full, and the log is turned into the other one, each operation written out.
func turnOps(half, head int, summary ...impl.Rec) []op {
	other := []int{2816, 2560}[half]
	ops := erasesOf(other/64, 4)
	for i, r := range summary {
		ops = append(ops, programOf(other+8+8*i, impl.RecPut(r)))
	}
	return append(ops, programOf(other, impl.RecPut(impl.Rec{Kind: impl.RkHead, Number: head + 1})))
}

// fullDevice has a log of 32 places in that half, and stale bytes in the other one.
func fullDevice(state impl.Boot, inUse, other parcel, half, head int) impl.Device {
	d := laidDevice(state, inUse, other, half, head, 32)
	copy(halfBytesOf(d.Flash, (half+1)%2), bytes.Repeat([]byte{0, 0x5a}, halfSize/2))
	return d
}

func TestInstallTurnsTheLog(t *testing.T) {
	t.Parallel()
	old, p := sizedParcel(3, 2, 5, 0, 0, 0), sizedParcel(4, 2, 0, 0, 65, 0)
	for half := range 2 {
		d := dirtied(fullDevice(bootOf(0, 3, 2), old, old, half, 5), 1)
		ops := wantPut(1, p)
		ops = append(ops, turnOps(half, 5, impl.Rec{Kind: impl.RkSet, Bank: 0, Number: 3, Floor: 2})...)
		ops = append(ops, programOf([]int{2816, 2560}[half]+16, impl.RecPut(impl.Rec{Kind: impl.RkCommit, Bank: 1, Number: 4})))
		checkOperations(t, fmt.Sprint("the half ", half), d, installing(d, p), ops, impl.Reply{Bank: 1, Number: 4})
	}
}

// The Summary of a Trial has its tries; behind the turned log comes the record itself.
func TestPowerOnTurnsTheLog(t *testing.T) {
	t.Parallel()
	old, p := sizedParcel(3, 2, 5, 0, 0, 0), sizedParcel(4, 2, 0, 0, 65, 0)
	for half := range 2 {
		for tries := range mostTries + 1 {
			for _, spoilt := range []bool{false, true} {
				d := fullDevice(trialOf(1, 4, 2, tries, 3), p, old, half, 254+half)
				end := impl.Reply{Bank: 1, Number: 4}
				record := impl.Rec{Kind: impl.RkTry}
				if spoilt {
					d.Flash.Bytes[partStart(1, 2)] ^= 1
				}
				if spoilt || tries == 3 {
					record, end = impl.Rec{Kind: impl.RkBack}, impl.Reply{Bank: 0, Number: 3}
				}
				summary := []impl.Rec{{Kind: impl.RkSet, Bank: 0, Number: 3, Floor: 2}, {Kind: impl.RkCommit, Bank: 1, Number: 4}}
				summary = append(summary, slices.Repeat([]impl.Rec{{Kind: impl.RkTry}}, tries)...)
				ops := append(turnOps(half, 254+half, summary...), programOf([]int{2816, 2560}[half]+24+8*tries, impl.RecPut(record)))
				checkOperations(t, fmt.Sprintf("the half %d, tries %d, spoilt %v", half, tries, spoilt), d, poweringOn(d), ops, end)
			}
		}
	}
}

func TestConfirmTurnsTheLog(t *testing.T) {
	t.Parallel()
	old, p := sizedParcel(3, 2, 5, 0, 0, 0), sizedParcel(4, 300, 0, 0, 65, 0)
	for half := range 2 {
		for tries := range mostTries + 1 {
			d := fullDevice(trialOf(0, 4, 2, tries, 3), p, old, half, 0)
			summary := []impl.Rec{{Kind: impl.RkSet, Bank: 1, Number: 3, Floor: 2}, {Kind: impl.RkCommit, Bank: 0, Number: 4}}
			summary = append(summary, slices.Repeat([]impl.Rec{{Kind: impl.RkTry}}, tries)...)
			record := impl.Rec{Kind: impl.RkConfirm, Floor: 300}
			ops := append(turnOps(half, 0, summary...), programOf([]int{2816, 2560}[half]+24+8*tries, impl.RecPut(record)))
			checkOperations(t, fmt.Sprintf("the half %d, tries %d", half, tries), d, confirming(d), ops, impl.Reply{Bank: 0, Number: 4})
		}
	}
}

// Where the power went while the log was turned, it is turned once more, from its first operation on; what it comes to is the same.
func TestLogTurnedBehindACut(t *testing.T) {
	t.Parallel()
	old, p := sizedParcel(3, 2, 5, 0, 0, 0), sizedParcel(4, 2, 0, 0, 65, 0)
	r := anySource(1201)
	for half := range 2 {
		d := fullDevice(trialOf(1, 4, 2, 2, 3), p, old, half, 7)
		_, all := impl.PowerOn(d, impl.Cut{Ops: uncut})
		for at := range all.Ops {
			for _, mask := range cutMasks(r) {
				name := fmt.Sprintf("the half %d, cut at %d by %s", half, at, tell(mask))
				torn, reply := checkPowerOn(t, name, d, impl.Cut{Ops: at, Mask: mask})
				if reply != (impl.Reply{Code: impl.DvCrash, Ops: at + 1}) {
					t.Fatalf("%s: %+v", name, reply)
				}
				checkGood(t, name, torn)
				state, _ := impl.StateOf(torn)
				if want := trialOf(1, 4, 2, 2, 3); state != want && (at < all.Ops-1 || state != trialOf(1, 4, 2, 3, 3)) {
					t.Fatalf("%s: the state is %+v", name, state)
				}
				again, reply := checkPowerOn(t, name+", again", torn, impl.Cut{Ops: uncut})
				checkGood(t, name, again)
				// The head is the last but one: till that is there, all comes once more.
				if reply.Code != impl.DvWell || at < all.Ops-2 && reply.Ops != all.Ops || at == all.Ops-1 && reply.Ops != 1 {
					t.Fatalf("%s: again %+v", name, reply)
				}
			}
		}
	}
}

// A record comes behind the places that are used, however many these are, and whatever is in them.
func TestRecordsBehindUsedPlaces(t *testing.T) {
	t.Parallel()
	old, p := sizedParcel(3, 2, 5, 0, 0, 0), sizedParcel(4, 2, 0, 0, 65, 0)
	for used := 4; used < allPlaces; used++ {
		half := used % 2
		d := laidDevice(trialOf(1, 4, 2, 1, 3), p, old, half, 5, used)
		at := 2560 + 256*half + 8*used
		checkOperations(t, fmt.Sprint("PowerOn, used ", used), d, poweringOn(d), []op{programOf(at, impl.RecPut(impl.Rec{Kind: impl.RkTry}))}, impl.Reply{Bank: 1, Number: 4})
		checkOperations(t, fmt.Sprint("Confirm, used ", used), d, confirming(d), []op{programOf(at, impl.RecPut(impl.Rec{Kind: impl.RkConfirm, Floor: 2}))}, impl.Reply{Bank: 1, Number: 4})
	}
	for _, c := range []struct {
		name  string
		place int
		row   []byte
	}{
		{"one bit of the next place", 9, []byte{255, 255, 255, 255, 255, 255, 255, 0xfe}},
		{"a gap", 14, []byte{0x7f}},
		{"a far one", 30, []byte{255, 255, 255, 0}},
	} {
		d := laidDevice(trialOf(1, 4, 2, 1, 3), p, old, 0, 5, 9)
		copy(d.Flash.Bytes[2560+8*c.place:], c.row)
		ops := []op{programOf(2560+8*(c.place+1), impl.RecPut(impl.Rec{Kind: impl.RkTry}))}
		checkOperations(t, c.name, d, poweringOn(d), ops, impl.Reply{Bank: 1, Number: 4})
	}
	d := laidDevice(trialOf(1, 4, 2, 1, 3), p, old, 0, 5, 9)
	d.Flash.Bytes[2560+255] = 0xfe
	ops := append(turnOps(0, 5, wantSummary(trialOf(1, 4, 2, 1, 3))...), programOf(2816+8*4, impl.RecPut(impl.Rec{Kind: impl.RkTry})))
	checkOperations(t, "one bit of the last place", d, poweringOn(d), ops, impl.Reply{Bank: 1, Number: 4})
}

// Neither PowerOn without a Trial nor anything that is refused has an operation for the power to go at.
func TestNoOperations(t *testing.T) {
	t.Parallel()
	old := sizedParcel(3, 2, 5, 0, 0, 0)
	for _, head := range []int{1, mostVersion} {
		d := laidDevice(bootOf(1, 3, 2), old, old, 0, head, 32)
		checkOperations(t, "PowerOn", d, poweringOn(d), nil, impl.Reply{Bank: 1, Number: 3})
		checkOperations(t, "Confirm", d, confirming(d), nil, impl.Reply{Code: impl.DvNone})
		trial := laidDevice(trialOf(1, 3, 2, 0, 3), old, old, 0, head, 32)
		checkOperations(t, "Install", trial, installing(trial, old), nil, impl.Reply{Code: impl.DvTrial})
	}
}

// checkWorn: the operations come up to the sector that is worn out, and no further, whether the power goes there or behind it.
func checkWorn(t *testing.T, name string, d impl.Device, do func(d impl.Device) acting, ops []op, sector int) {
	t.Helper()
	worn := copyDevice(d)
	worn.Flash.Wear[sector] = mostWear
	stop := slices.IndexFunc(ops, func(o op) bool { return o.erase && o.at == sector })
	if stop < 0 {
		t.Fatalf("%s: the sector %d is not erased", name, sector)
	}
	f := worn.Flash
	for i, o := range ops[:stop] {
		if i == stop-1 {
			torn, _ := o.done(f, []byte{0x3c})
			got, reply := do(worn)(impl.Cut{Ops: i, Mask: []byte{0x3c}})
			checkActed(t, name+": cut ahead of it", got, reply, impl.Device{Id: d.Id, Keys: d.Keys, Flash: torn}, impl.Reply{Code: impl.DvCrash, Ops: stop})
		}
		f, _ = o.done(f, []byte{255})
	}
	for _, at := range []int{uncut, stop, stop + 1, mostCut} {
		got, reply := do(worn)(impl.Cut{Ops: at, Mask: []byte{0x3c}})
		checkActed(t, fmt.Sprintf("%s: the sector %d is worn out, cut at %d", name, sector, at), got, reply,
			impl.Device{Id: d.Id, Keys: d.Keys, Flash: f}, impl.Reply{Code: impl.DvFlash, Ops: stop})
	}
}

func TestWornSectorsOfABank(t *testing.T) {
	t.Parallel()
	old, p := sizedParcel(3, 2, 5, 0, 0, 0), sizedParcel(4, 2, 0, 0, 65, 0)
	for bank := range 2 {
		d := dirtied(laidDevice(bootOf(1-bank, 3, 2), old, old, 0, 5, 9), bank)
		for i := range 20 {
			checkWorn(t, "Install", d, func(d impl.Device) acting { return installing(d, p) }, wantPut(bank, p), 20*bank+i)
		}
	}
}

func TestWornSectorsOfTheLog(t *testing.T) {
	t.Parallel()
	old, p := sizedParcel(3, 2, 5, 0, 0, 0), sizedParcel(4, 2, 0, 0, 65, 0)
	for half := range 2 {
		still := fullDevice(bootOf(0, 3, 2), old, old, half, 5)
		trial := fullDevice(trialOf(1, 4, 2, 1, 3), p, old, half, 5)
		for i := range 4 {
			sector := []int{44, 40}[half] + i
			ops := append(wantPut(1, p), turnOps(half, 5)...)
			checkWorn(t, "Install", still, func(d impl.Device) acting { return installing(d, p) }, ops, sector)
			checkWorn(t, "PowerOn", trial, poweringOn, turnOps(half, 5), sector)
			checkWorn(t, "Confirm", trial, confirming, turnOps(half, 5), sector)
		}
	}
}

// Sectors that are not erased may be worn out.
func TestWornSectorsElsewhere(t *testing.T) {
	t.Parallel()
	old, p := sizedParcel(3, 2, 5, 0, 0, 0), sizedParcel(4, 2, 0, 0, 65, 0)
	d := laidDevice(bootOf(0, 3, 2), old, old, 0, 5, 31)
	for _, sector := range slices.Concat([]int{0, 1, 7, 8, 19}, []int{40, 41, 42, 43, 44, 45, 46, 47}) {
		d.Flash.Wear[sector] = mostWear
	}
	d, reply := checkInstall(t, "worn elsewhere", d, p, impl.Cut{Ops: uncut})
	if reply.Code != impl.DvWell {
		t.Fatalf("Install: %+v", reply)
	}
	// The log is full now, and its other half is worn out.
	for _, do := range []acting{poweringOn(d), confirming(d)} {
		got, reply := do(impl.Cut{Ops: uncut})
		checkActed(t, "a log that can't be turned", got, reply, d, impl.Reply{Code: impl.DvFlash})
	}
	if state, _ := impl.StateOf(d); state != trialOf(1, 4, 2, 0, 3) {
		t.Errorf("the state is %+v", state)
	}
}

// A head of the greatest Number: its places can be used, but it can't be turned.
func TestLogThatCantBeTurned(t *testing.T) {
	t.Parallel()
	old, p := sizedParcel(3, 2, 5, 0, 0, 0), sizedParcel(4, 2, 0, 0, 65, 0)
	for half := range 2 {
		still := fullDevice(bootOf(0, 3, 2), old, old, half, 1000)
		checkOperations(t, "Install", still, installing(still, p), wantPut(1, p), impl.Reply{Code: impl.DvLog})
		for tries := range mostTries + 1 {
			trial := fullDevice(trialOf(1, 4, 2, tries, 3), p, old, half, 1000)
			checkOperations(t, "PowerOn", trial, poweringOn(trial), nil, impl.Reply{Code: impl.DvLog})
			checkOperations(t, "Confirm", trial, confirming(trial), nil, impl.Reply{Code: impl.DvLog})
		}
		place := laidDevice(trialOf(1, 4, 2, 1, 3), p, old, half, 1000, 31)
		checkOperations(t, "the last place", place, poweringOn(place), []op{programOf(2560+256*half+248, impl.RecPut(impl.Rec{Kind: impl.RkTry}))}, impl.Reply{Bank: 1, Number: 4})
		last := fullDevice(bootOf(0, 3, 2), old, old, half, 999)
		after, reply := checkInstall(t, "the head 999", last, p, impl.Cut{Ops: uncut})
		if l, ok := wantLog(after.Flash); reply.Code != impl.DvWell || !ok || l.head != 1000 || l.half != 1-half || l.used != 3 {
			t.Errorf("the head 999: %+v, the log is %+v", reply, l)
		}
	}
}

// Which half is written, and which is turned, hangs on which of them counts, and on their heads.
func TestWhichHalfIsWritten(t *testing.T) {
	t.Parallel()
	old, p := sizedParcel(3, 2, 5, 0, 0, 0), sizedParcel(4, 2, 0, 0, 65, 0)
	state := trialOf(1, 4, 2, 1, 3)
	for _, heads := range [][2]int{{5, 4}, {4, 5}, {5, 5}, {0, 0}, {1000, 999}, {999, 1000}, {256, 255}, {255, 256}} {
		log := oneOf(heads[0] >= heads[1], 0, 1)
		for _, counts := range [][2]bool{{true, true}, {true, false}, {false, true}, {false, false}} {
			for _, used := range []int{9, 32} {
				d := laidDevice(state, p, old, 0, heads[0], used)
				layRecords(d.Flash, 1, longLog(heads[1], state, used)...)
				which := log
				for half, does := range counts {
					if !does {
						// A head that is torn: the half still has all its records behind it.
						halfBytesOf(d.Flash, half)[0] = 255
						which = 1 - half
					}
				}
				name := fmt.Sprintf("the heads %v, which count: %v, used %d", heads, counts, used)
				after, reply := checkPowerOn(t, name, d, impl.Cut{Ops: uncut})
				if !counts[0] && !counts[1] {
					if reply != (impl.Reply{Code: impl.DvLog}) || !isSameDevice(after, d) {
						t.Errorf("%s: %+v", name, reply)
					}
					continue
				}
				var changed []int
				for half := range 2 {
					if !bytes.Equal(halfBytesOf(after.Flash, half), halfBytesOf(d.Flash, half)) {
						changed = append(changed, half)
					}
				}
				want := []int{oneOf(used == 32, 1-which, which)}
				if used == 32 && heads[which] == 1000 {
					want = nil
				}
				if !slices.Equal(changed, want) {
					t.Errorf("%s: %+v, the halves %v were changed, want %v", name, reply, changed, want)
				}
			}
		}
	}
}

// The cut's own edges, on an Install whose operations are counted.
func TestCutEdges(t *testing.T) {
	t.Parallel()
	old, p := sizedParcel(3, 2, 5, 0, 0, 0), sizedParcel(4, 2, 0, 0, 65, 0)
	d := laidDevice(bootOf(0, 3, 2), old, old, 0, 5, 9)
	_, all := checkInstall(t, "uncut", d, p, impl.Cut{Ops: uncut})
	if all.Ops != len(wantPut(1, p))+1 {
		t.Fatalf("%+v", all)
	}
	crash := func(ops int) impl.Reply { return impl.Reply{Code: impl.DvCrash, Ops: ops} }
	form := impl.Reply{Code: impl.DvForm}
	for _, c := range []struct {
		ops, mask int
		want      impl.Reply
	}{
		{-2, 1, form}, {-1, 1, all}, {0, 1, crash(1)}, {1, 1, crash(2)}, {all.Ops - 1, 1, crash(all.Ops)}, {all.Ops, 1, all},
		{all.Ops + 1, 1, all}, {10000, 1, all}, {10001, 1, form}, {-1, 256, all}, {-1, 257, form}, {0, 256, crash(1)}, {0, 257, form},
		{10000, 257, form}, {10001, 256, form}, {-2, 257, form}, {-1, 0, all}, {0, 0, crash(1)},
	} {
		cut := impl.Cut{Ops: c.ops, Mask: bytes.Repeat([]byte{0x5a}, c.mask)}
		got, reply := checkInstall(t, "edges", d, p, cut)
		if reply != c.want || isZero(got) != (c.want == form) {
			t.Errorf("cut at %d by %d bytes: %+v, want %+v", c.ops, c.mask, reply, c.want)
		}
		trial := laidDevice(trialOf(1, 4, 2, 1, 3), p, old, 0, 5, 9)
		checkPowerOn(t, "edges", trial, cut)
		checkConfirm(t, "edges", trial, cut)
	}
}

// A mask of 256 bytes goes over the whole sector, byte by byte.
func TestCutMaskOfManyBytes(t *testing.T) {
	t.Parallel()
	old, p := sizedParcel(3, 2, 5, 0, 0, 0), sizedParcel(4, 2, 0, 0, 65, 0)
	d := dirtied(laidDevice(bootOf(0, 3, 2), old, old, 0, 5, 9), 1)
	r := anySource(1202)
	for _, count := range edgeMasks() {
		for _, at := range []int{0, 19, 20, 21, 22} {
			checkInstall(t, "a long mask", d, p, impl.Cut{Ops: at, Mask: drawnBytes(r, count)})
		}
	}
}
