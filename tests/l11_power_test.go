package tests

import (
	"bytes"
	"fmt"
	"math/rand/v2"
	"slices"
	"testing"

	"loop.example/g00412/impl"
)

// goodDevices have no Trial, the state's Floor is 2, and every sector may be erased at least once.
func goodDevices() []deviceCase {
	r := anySource(1110)
	old, stale := drawnParcel(r, 3, 2, 5, 2), drawnParcel(r, 9, 5, 14, 3)
	first, second := bootOf(0, 3, 2), bootOf(1, 3, 2)
	provisioned, _ := impl.Provision(ownDevice, plainKeys(), old.env, old.datas)
	secondHalf := laidDevice(second, old, stale, 1, 7, 9)
	layRecords(secondHalf.Flash, 0, longLog(6, bootOf(0, 9, 0), 32)...)
	fullSecond := laidDevice(first, old, stale, 1, 256, 32)
	layRecords(fullSecond.Flash, 0, longLog(255, bootOf(1, 9, 0), 30)...)
	noughts := laidDevice(second, old, stale, 0, 4, 12)
	clear(noughts.Flash.Bytes[:bankSize])
	torn := laidDevice(first, old, stale, 0, 4, 12)
	copy(halfBytesOf(torn.Flash, 0)[12*recSize:], []byte{255, 255, 0xf7})
	tornLast := laidDevice(second, old, stale, 0, 4, 31)
	copy(halfBytesOf(tornLast.Flash, 0)[31*recSize:], []byte{255, 255, 255, 255, 255, 255, 255, 0xfe})
	worn := laidDevice(first, old, stale, 0, 4, 32)
	worn.Flash.Wear = slices.Repeat([]int{mostWear - 1}, allSectors)
	alike := laidDevice(second, old, stale, 0, 12, 32)
	layRecords(alike.Flash, 1, longLog(12, bootOf(0, 9, 0), 5)...)
	lone := laidDevice(first, drawnParcel(r, 3, 1000, 8, 0), stale, 0, 0, 2)
	return []deviceCase{
		{"provisioned", provisioned},
		{"the second half", secondHalf},
		{"a full half", laidDevice(second, old, stale, 0, 1, 32)},
		{"a full second half", fullSecond},
		{"one place left", laidDevice(first, old, stale, 0, 1, 31)},
		{"a bank of noughts", noughts},
		{"a torn record", torn},
		{"a torn record in the last place", tornLast},
		{"worn nearly out", worn},
		{"a full half of the head 999", laidDevice(second, old, stale, 1, 999, 32)},
		{"two heads alike", alike},
		{"a head of 0", lone},
	}
}

// newParcels may be let in on all goodDevices.
func newParcels(r *rand.Rand) []parcel {
	return []parcel{drawnParcel(r, 1, 2, 1, 0), drawnParcel(r, 4, 3, 15, 8), drawnParcel(r, 1000, 1000, 6, 4), drawnParcel(r, 3, 2, 11, 1)}
}

// cutMasks: of no byte, of noughts, of 255, and mixed ones.
func cutMasks(r *rand.Rand) [][]byte {
	return [][]byte{nil, {0}, {255}, {0x55}, {0xaa, 0x0f, 0xff}, drawnBytes(r, 7), drawnBytes(r, mostMask)}
}

func TestGoodDevicesAreGood(t *testing.T) {
	for _, c := range goodDevices() {
		checkGood(t, c.name, c.device)
		if state, ok := checkState(t, c.name, c.device); !ok || state.Trial || state.Number != 3 || state.Floor != 2 {
			t.Errorf("%s: the state is %+v, %v", c.name, state, ok)
		}
	}
}

// checkInstallPromise holds promise 10 of a device behind an Install, wherever that ended: by the bytes of its flash.
func checkInstallPromise(t *testing.T, name string, was, got impl.Device, p parcel) impl.Boot {
	t.Helper()
	before, _ := wantState(was)
	at, other := before.Bank*bankSize, (before.Bank+1)%2
	if !bytes.Equal(got.Flash.Bytes[at:at+bankSize], was.Flash.Bytes[at:at+bankSize]) {
		t.Fatalf("%s: the state's bank is another one", name)
	}
	if got.Id != was.Id || !sameAnswer(got.Keys, was.Keys) {
		t.Fatalf("%s: the device is another one", name)
	}
	checkGood(t, name, got)
	after, ok := impl.StateOf(got)
	if !ok || after == before {
		if !ok {
			t.Fatalf("%s: there is no state any more", name)
		}
		return after
	}
	if after != trialOf(other, p.bundle.Number, before.Floor, 0, before.Number) {
		t.Fatalf("%s: the state was %+v, is %+v", name, before, after)
	}
	there, code := wantBank(got, other)
	if code != impl.BuWell || !bytes.Equal(there.env, p.env) || !slices.EqualFunc(there.datas, p.datas, bytes.Equal) {
		t.Fatalf("%s: the new bundle is not there as it came: %d", name, code)
	}
	return after
}

// checkInstalled: the parcel is there by the program's own telling, too.
func checkInstalled(t *testing.T, name string, d impl.Device, bank int, p parcel) {
	t.Helper()
	if bundle, code := impl.Sound(d, bank); code != impl.BuWell || !sameAnswer(bundle, p.bundle) {
		t.Fatalf("%s: Sound of %d = %+v, %d", name, bank, bundle, code)
	}
	env, datas, ok := impl.BankOf(d, bank)
	if !ok || !bytes.Equal(env, p.env) || !slices.EqualFunc(datas, p.datas, bytes.Equal) {
		t.Fatalf("%s: BankOf %d is not what came", name, bank)
	}
}

// checkEachCut lets the power go at each operation of an Install and past the last one.
func checkEachCut(t *testing.T, c deviceCase, p parcel, masks [][]byte) {
	t.Helper()
	whole, all := checkInstall(t, c.name, c.device, p, impl.Cut{Ops: uncut})
	if all.Code != impl.DvWell || all.Number != p.bundle.Number {
		t.Fatalf("%s: %+v", c.name, all)
	}
	checkInstalled(t, c.name, whole, all.Bank, p)
	for at := 0; at <= all.Ops+1; at++ {
		for i, mask := range masks {
			cut := impl.Cut{Ops: at, Mask: mask}
			name := c.name + ", " + tellCut(cut)
			got, reply := checkInstall(t, c.name, c.device, p, cut)
			want := impl.Reply{Code: impl.DvCrash, Ops: at + 1}
			if at >= all.Ops {
				want = all
			}
			if reply != want {
				t.Fatalf("%s: %+v, want %+v", name, reply, want)
			}
			state := checkInstallPromise(t, name, c.device, got, p)
			if at == all.Ops-1 && bytes.Equal(mask, []byte{255}) && !state.Trial {
				t.Fatalf("%s: the record is whole, but the state is %+v", name, state)
			}
			if at < all.Ops-1 && state.Trial {
				t.Fatalf("%s: the record is not there, but the state is %+v", name, state)
			}
			// PowerOn takes its time: it comes behind one mask of each place.
			if i == at%len(masks) {
				checkHandsOnBehindCut(t, name, got, state)
			}
		}
	}
}

func checkHandsOnBehindCut(t *testing.T, name string, d impl.Device, state impl.Boot) {
	t.Helper()
	after, reply := checkPowerOn(t, name, d, impl.Cut{Ops: uncut})
	if reply.Code != impl.DvWell || reply.Bank != state.Bank || reply.Number != state.Number {
		t.Fatalf("%s: PowerOn %+v, the state is %+v", name, reply, state)
	}
	checkGood(t, name, after)
}

func TestInstallCutAnywhere(t *testing.T) {
	t.Parallel()
	for i, c := range goodDevices() {
		t.Run(c.name, func(t *testing.T) {
			t.Parallel()
			r := anySource(uint64(1120 + i))
			p := newParcels(r)[i%4]
			if state, _ := wantState(c.device); p.bundle.Floor < state.Floor {
				t.Fatalf("%+v is not let in", p.bundle)
			}
			checkEachCut(t, c, p, cutMasks(r))
		})
	}
}

// What is torn stays torn, and the next Install is torn, too: the device is good all the same, and the last one does it.
func TestInstallTornAgainAndAgain(t *testing.T) {
	t.Parallel()
	for i, c := range goodDevices() {
		if c.device.Flash.Wear[0] > mostWear-30 {
			continue
		}
		t.Run(c.name, func(t *testing.T) {
			t.Parallel()
			r := anySource(uint64(1140 + i))
			d, parcels := c.device, newParcels(r)
			for range 12 {
				p := parcels[r.IntN(len(parcels))]
				_, all := wantInstall(d, p.env, p.datas, impl.Cut{Ops: uncut})
				next, reply := checkInstall(t, c.name, d, p, impl.Cut{Ops: r.IntN(all.Ops - 1), Mask: drawnBytes(r, r.IntN(4))})
				if state := checkInstallPromise(t, c.name, d, next, p); reply.Code != impl.DvCrash || state.Trial {
					t.Fatalf("%s: %+v, the state is %+v", c.name, reply, state)
				}
				d = next
			}
			next, reply := checkInstall(t, c.name, d, parcels[1], impl.Cut{Ops: uncut})
			if reply.Code != impl.DvWell || !checkInstallPromise(t, c.name, d, next, parcels[1]).Trial {
				t.Fatalf("%s: %+v", c.name, reply)
			}
		})
	}
}

// refusedParcel is one that is not let in, and why.
type refusedParcel struct {
	name string
	code int
	p    parcel
}

// refusedParcels are what p becomes by one change each; p has three parts of the kinds 0 to 2, and is let in with that floor, from 1 on.
func refusedParcels(p parcel, floor int) []refusedParcel {
	with := func(do func(p *parcel)) parcel {
		q := parcel{roomyCopy(p.bundle, 0), bytes.Clone(p.env), roomyCopy(p.datas, 0)}
		do(&q)
		return q
	}
	signed := func(do func(b *impl.Bundle)) parcel {
		return with(func(p *parcel) { do(&p.bundle); *p = p.signed() })
	}
	ofLength := func(length int) parcel {
		return with(func(p *parcel) { p.env = append(p.env, make([]byte, length-len(p.env))...) })
	}
	return []refusedParcel{
		{"511 bytes", impl.DvForm, ofLength(511)},
		{"2000 bytes", impl.DvForm, ofLength(2000)},
		{"510 bytes", impl.BuForm, ofLength(510)},
		{"no bytes", impl.BuForm, with(func(p *parcel) { p.env = nil })},
		{"eight data", impl.DvForm, with(func(p *parcel) { p.datas = append(p.datas, make([][]byte, 5)...) })},
		{"five data", impl.DvForm, with(func(p *parcel) { p.datas = append(p.datas, nil, nil) })},
		{"four data", impl.DvData, with(func(p *parcel) { p.datas = append(p.datas, nil) })},
		{"two data", impl.DvData, with(func(p *parcel) { p.datas = p.datas[:2] })},
		{"no data", impl.DvData, with(func(p *parcel) { p.datas = nil })},
		{"a byte of data", impl.DvData, with(func(p *parcel) { p.datas[2][0] ^= 1 })},
		{"a byte less", impl.DvData, with(func(p *parcel) { p.datas[1] = p.datas[1][:len(p.datas[1])-1] })},
		{"out of order", impl.DvData, with(func(p *parcel) { slices.Reverse(p.datas) })},
		{"a key that may not", impl.BuKey, with(func(p *parcel) { p.env = wantEnvelope(wantBundleBytes(p.bundle), 6, anySeed(6)) })},
		{"another seed", impl.BuSign, with(func(p *parcel) { p.env = wantEnvelope(wantBundleBytes(p.bundle), 4, anySeed(6)) })},
		{"another device", impl.BuDevice, signed(func(b *impl.Bundle) { b.Device = 8 })},
		{"a need", impl.BuNeeds, signed(func(b *impl.Bundle) { b.Needs = []impl.Need{{Of: 0, Kind: 3, To: 1000}} })},
		{"a Floor below", impl.BuOld, signed(func(b *impl.Bundle) { b.Floor = floor - 1 })},
	}
}

// Each refusal, wherever the power would go: no operation is taken, and the flash is as it was.
func TestInstallRefusedTakesNoOperation(t *testing.T) {
	t.Parallel()
	r := anySource(1111)
	p := drawnParcel(r, 4, 3, 7, 2)
	devices := goodDevices()
	for i, c := range refusedParcels(p, 2) {
		for k, cut := range []impl.Cut{{Ops: uncut}, {Ops: 0, Mask: []byte{255}}, {Ops: 1}, {Ops: mostCut, Mask: drawnBytes(r, mostMask)}} {
			d := devices[(i+k)%len(devices)].device
			got, reply := checkInstall(t, c.name, d, c.p, cut)
			if reply != (impl.Reply{Code: c.code}) || !isSameDevice(got, d) {
				t.Errorf("%s: %+v, want the code %d", c.name, reply, c.code)
			}
		}
	}
	trial, _ := impl.Install(devices[0].device, p.env, p.datas, impl.Cut{Ops: uncut})
	if got, reply := checkInstall(t, "a trial", trial, p, impl.Cut{Ops: 0}); reply != (impl.Reply{Code: impl.DvTrial}) || !isSameDevice(got, trial) {
		t.Errorf("a trial: %+v", reply)
	}
}

// trialDevice tries what is in the bank; the other one has the Number 3.
func trialDevice(bank, tries, used int, tried, old parcel) impl.Device {
	return laidDevice(trialOf(bank, tried.bundle.Number, 2, tries, 3), tried, old, 0, 5, used)
}

// turnedPlaces: each byte of the bank on which its being sound hangs.
func turnedPlaces(bank int, p parcel) []int {
	var out []int
	for i := range p.bankBytes() {
		out = append(out, bank*bankSize+i)
	}
	for _, part := range p.bundle.Parts {
		for i := range part.Size {
			out = append(out, partStart(bank, part.Kind)+i)
		}
	}
	return out
}

// One byte that is turned anywhere in it: nothing is handed on of that bank any more.
func TestPowerOnOneByteTurned(t *testing.T) {
	t.Parallel()
	r := anySource(1112)
	old := drawnParcel(r, 3, 2, 3, 0)
	for i, p := range []parcel{drawnParcel(r, 4, 2, 4, 0), drawnParcel(r, 5, 3, 15, 5)} {
		bank, step := i, 1+3*i
		still := laidDevice(bootOf(bank, p.bundle.Number, 2), p, old, 0, 5, 7)
		for _, tries := range []int{uncut, 0, 3} {
			d := still
			if tries >= 0 {
				d = trialDevice(bank, tries, 9, p, old)
			}
			t.Run(fmt.Sprintf("the bank %d, tries %d", bank, tries), func(t *testing.T) {
				t.Parallel()
				places := turnedPlaces(bank, p)
				for k := 0; k < len(places); k += step {
					checkTurned(t, d, places[k], byte(1<<(k%8)))
				}
				checkTurned(t, d, places[0], 255)
				checkTurned(t, d, places[1], 255)
			})
		}
	}
}

func checkTurned(t *testing.T, d impl.Device, place int, bits byte) {
	t.Helper()
	name := fmt.Sprintf("the byte %d turned by %x", place, bits)
	state, _ := wantState(d)
	spoilt := copyDevice(d)
	spoilt.Flash.Bytes[place] ^= bits
	after, reply := checkPowerOn(t, name, spoilt, impl.Cut{Ops: uncut})
	want := impl.Reply{Code: impl.DvRescue}
	if state.Trial {
		want = impl.Reply{Code: impl.DvWell, Bank: (state.Bank + 1) % 2, Number: state.Old, Ops: 1}
	}
	if reply != want {
		t.Fatalf("%s: %+v, want %+v", name, reply, want)
	}
	if now, _ := impl.StateOf(after); state.Trial && now != bootOf(want.Bank, state.Old, state.Floor) {
		t.Fatalf("%s: the state is %+v", name, now)
	}
}

// Bytes of the bank on which nothing hangs may turn: it is handed on all the same.
func TestPowerOnOtherBytesTurned(t *testing.T) {
	t.Parallel()
	r := anySource(1113)
	p, old := drawnParcel(r, 4, 2, 4, 0), drawnParcel(r, 3, 2, 3, 0)
	d := laidDevice(bootOf(1, 4, 2), p, old, 0, 5, 7)
	hangs := turnedPlaces(1, p)
	for range 40 {
		place := bankSize + r.IntN(bankSize)
		if slices.Contains(hangs, place) {
			continue
		}
		turnedDevice := copyDevice(d)
		turnedDevice.Flash.Bytes[place] ^= 1 << r.IntN(8)
		if _, reply := checkPowerOn(t, fmt.Sprint("the byte ", place), turnedDevice, impl.Cut{Ops: uncut}); reply != (impl.Reply{Bank: 1, Number: 4}) {
			t.Errorf("the byte %d: %+v", place, reply)
		}
	}
}

// All that may be wrong with a bank: it is not handed on; with a Trial the one of before is.
func TestPowerOnWhatMayNot(t *testing.T) {
	t.Parallel()
	p, old := soundParcel(), soundParcel()
	for _, c := range soundCases(p) {
		still := laidDevice(bootOf(1, 3, 2), p, old, 0, 1, 2)
		c.do(&still)
		floor := 2
		if b, _ := wantBank(still, 1); c.code == impl.BuWell {
			floor = b.bundle.Floor
		}
		_, hasState := wantState(still)
		_, reply := checkPowerOn(t, c.name, still, impl.Cut{Ops: uncut})
		want := impl.Reply{Code: oneOf(!hasState, impl.DvLog, impl.DvRescue)}
		if c.code == impl.BuWell && floor >= 2 && hasState {
			want = impl.Reply{Bank: 1, Number: 3}
		}
		if reply != want {
			t.Errorf("%s: %+v, want %+v", c.name, reply, want)
		}
		for tries := range mostTries + 1 {
			trial := trialDevice(1, tries, 12, p, old)
			c.do(&trial)
			checkPowerOn(t, c.name+" in a trial", trial, impl.Cut{Ops: uncut})
			checkConfirm(t, c.name+" in a trial", trial, impl.Cut{Ops: uncut})
		}
	}
}

// A bank that is sound is not enough: it must have the state's Number, and no Floor below the state's.
func TestPowerOnNumberAndFloor(t *testing.T) {
	t.Parallel()
	r := anySource(1114)
	p, old := drawnParcel(r, 30, 20, 9, 1), drawnParcel(r, 3, 25, 3, 1)
	for _, c := range []struct {
		name  string
		state impl.Boot
		want  impl.Reply
	}{
		{"well", bootOf(1, 30, 20), impl.Reply{Bank: 1, Number: 30}},
		{"a lower Floor", bootOf(1, 30, 0), impl.Reply{Bank: 1, Number: 30}},
		{"one below the floor", bootOf(1, 30, 21), impl.Reply{Code: impl.DvRescue}},
		{"far below the floor", bootOf(1, 30, 1000), impl.Reply{Code: impl.DvRescue}},
		{"another Number", bootOf(1, 31, 20), impl.Reply{Code: impl.DvRescue}},
		{"a lower Number", bootOf(1, 29, 20), impl.Reply{Code: impl.DvRescue}},
		{"the other one's Number", bootOf(1, 3, 20), impl.Reply{Code: impl.DvRescue}},
		{"both", bootOf(1, 31, 21), impl.Reply{Code: impl.DvRescue}},
		{"a trial", trialOf(1, 30, 20, 0, 3), impl.Reply{Bank: 1, Number: 30, Ops: 1}},
		{"the last try", trialOf(1, 30, 20, 2, 3), impl.Reply{Bank: 1, Number: 30, Ops: 1}},
		{"behind the last try", trialOf(1, 30, 20, 3, 3), impl.Reply{Bank: 0, Number: 3, Ops: 1}},
		{"a trial of another Number", trialOf(1, 31, 20, 0, 3), impl.Reply{Code: impl.DvRescue, Ops: 1}},
		{"a trial below the floor", trialOf(1, 30, 21, 0, 3), impl.Reply{Code: impl.DvRescue, Ops: 1}},
		{"back to another Number", trialOf(1, 30, 20, 3, 4), impl.Reply{Code: impl.DvRescue, Ops: 1}},
		{"back to a Floor just so", trialOf(1, 30, 25, 3, 3), impl.Reply{Bank: 0, Number: 3, Ops: 1}},
		{"back to one below the floor", trialOf(1, 30, 26, 3, 3), impl.Reply{Code: impl.DvRescue, Ops: 1}},
	} {
		d := laidDevice(c.state, p, old, 0, 5, 9)
		after, reply := checkPowerOn(t, c.name, d, impl.Cut{Ops: uncut})
		if reply != c.want {
			t.Errorf("%s: %+v, want %+v", c.name, reply, c.want)
		}
		if c.want.Ops == 0 && !isSameDevice(after, d) {
			t.Errorf("%s: the device is another one", c.name)
		}
	}
}

// With a Trial whose bank is not sound, and the other one neither: RkBack is written, and none is handed on.
func TestPowerOnBothBanksSpoilt(t *testing.T) {
	t.Parallel()
	p := soundParcel()
	d := trialDevice(1, 1, 9, p, p)
	d.Flash.Bytes[partStart(1, 0)] ^= 1
	d.Flash.Bytes[partStart(0, 0)] ^= 1
	after, reply := checkPowerOn(t, "both", d, impl.Cut{Ops: uncut})
	state, _ := impl.StateOf(after)
	if reply != (impl.Reply{Code: impl.DvRescue, Ops: 1}) || state != bootOf(0, 3, 2) {
		t.Errorf("%+v, the state is %+v", reply, state)
	}
	if again, reply := checkPowerOn(t, "again", after, impl.Cut{Ops: 0}); reply != (impl.Reply{Code: impl.DvRescue}) || !isSameDevice(again, after) {
		t.Errorf("again: %+v", reply)
	}
}

// startsOfTrials: a device for each number of places that are used, in either half; its wear is the most that promise 13 allows.
func startsOfTrials(old parcel) []deviceCase {
	var out []deviceCase
	for used := 2; used <= allPlaces; used++ {
		bank, half := used%2, used/2%2
		d := laidDevice(bootOf(bank, 3, 2), old, old, half, 100+used, used)
		d.Flash.Wear = slices.Repeat([]int{mostWear - 31}, allSectors)
		out = append(out, deviceCase{fmt.Sprintf("%d places used", used), d})
	}
	return out
}

func checkHands(t *testing.T, name string, d impl.Device, bank, number int) impl.Device {
	t.Helper()
	after, reply := checkPowerOn(t, name, d, impl.Cut{Ops: uncut})
	if reply.Code != impl.DvWell || reply.Bank != bank || reply.Number != number {
		t.Fatalf("%s: %+v, want the bank %d and the Number %d", name, reply, bank, number)
	}
	checkGood(t, name, after)
	return after
}

func TestTriedAndNotConfirmed(t *testing.T) {
	t.Parallel()
	r := anySource(1115)
	old, next := drawnParcel(r, 3, 2, 5, 1), drawnParcel(r, 8, 4, 2, 1)
	for _, c := range startsOfTrials(old) {
		t.Run(c.name, func(t *testing.T) {
			t.Parallel()
			before, _ := wantState(c.device)
			d, reply := checkInstall(t, c.name, c.device, next, impl.Cut{Ops: uncut})
			if reply.Code != impl.DvWell {
				t.Fatalf("%+v", reply)
			}
			for i := range mostTries {
				d = checkHands(t, fmt.Sprint("try ", i), d, reply.Bank, 8)
				if state, _ := impl.StateOf(d); state != trialOf(reply.Bank, 8, 2, i+1, 3) {
					t.Fatalf("try %d: the state is %+v", i, state)
				}
			}
			d = checkHands(t, "back", d, before.Bank, 3)
			for range 3 {
				again := checkHands(t, "back for good", d, before.Bank, 3)
				if !isSameDevice(again, d) {
					t.Fatal("PowerOn without a Trial changed the device")
				}
			}
			if state, _ := impl.StateOf(d); state != before {
				t.Fatalf("the state was %+v, is %+v", before, state)
			}
			if _, reply := checkConfirm(t, "too late", d, impl.Cut{Ops: uncut}); reply != (impl.Reply{Code: impl.DvNone}) {
				t.Fatalf("Confirm behind all: %+v", reply)
			}
		})
	}
}

// Confirmed ahead of the first PowerOn, and behind each of those that hand it on.
func TestTriedAndConfirmed(t *testing.T) {
	t.Parallel()
	r := anySource(1116)
	old := drawnParcel(r, 3, 2, 5, 1)
	for i, c := range startsOfTrials(old) {
		t.Run(c.name, func(t *testing.T) {
			t.Parallel()
			next := drawnParcel(anySource(uint64(i)), 8, 2+i%3, 2, 1)
			installed, reply := checkInstall(t, c.name, c.device, next, impl.Cut{Ops: uncut})
			for tries := range mostTries + 1 {
				kept, said := checkConfirm(t, c.name, installed, impl.Cut{Ops: uncut})
				if said.Code != impl.DvWell || said.Bank != reply.Bank || said.Number != 8 {
					t.Fatalf("Confirm behind %d tries: %+v", tries, said)
				}
				if state, ok := impl.StateOf(kept); !ok || state != bootOf(reply.Bank, 8, max(2, next.bundle.Floor)) {
					t.Fatalf("Confirm behind %d tries: the state is %+v, %v", tries, state, ok)
				}
				for range 2 + tries {
					kept = checkHands(t, "confirmed", kept, reply.Bank, 8)
				}
				if tries < mostTries {
					installed = checkHands(t, "tried", installed, reply.Bank, 8)
				}
			}
		})
	}
}

// The Floor is the greater one of what it was and of the bundle's, though on a good device that is the bundle's.
func TestConfirmFloors(t *testing.T) {
	t.Parallel()
	r := anySource(1117)
	old := drawnParcel(r, 3, 1000, 5, 1)
	for _, floors := range [][3]int{{2, 0, 2}, {2, 1, 2}, {2, 2, 2}, {2, 3, 3}, {0, 0, 0}, {0, 1000, 1000}, {1000, 0, 1000}, {255, 256, 256}, {256, 255, 256}} {
		p := drawnParcel(r, 8, floors[1], 6, 1)
		d := laidDevice(trialOf(1, 8, floors[0], 1, 3), p, old, 0, 5, 9)
		after, reply := checkConfirm(t, fmt.Sprint(floors), d, impl.Cut{Ops: uncut})
		if state, _ := impl.StateOf(after); reply != (impl.Reply{Bank: 1, Number: 8, Ops: 1}) || state != bootOf(1, 8, floors[2]) {
			t.Errorf("the floors %v: %+v, the state is %+v", floors, reply, state)
		}
	}
}

// Between, the power goes at each PowerOn: a try that is torn may count or not, but none is handed on too often, and all ends with the one of before.
func TestTriedWithTornTries(t *testing.T) {
	t.Parallel()
	r := anySource(1118)
	old, next := drawnParcel(r, 3, 2, 5, 1), drawnParcel(r, 8, 4, 2, 1)
	for i, c := range startsOfTrials(old) {
		if i%3 > 0 {
			continue
		}
		before, _ := wantState(c.device)
		d, reply := checkInstall(t, c.name, c.device, next, impl.Cut{Ops: uncut})
		handed := 0
		for state := (impl.Boot{Trial: true}); state.Trial; state, _ = impl.StateOf(d) {
			torn := impl.Cut{Ops: r.IntN(3), Mask: drawnBytes(r, r.IntN(3))}
			d, _ = checkPowerOn(t, c.name, d, torn)
			checkGood(t, c.name, d)
			var said impl.Reply
			if d, said = checkPowerOn(t, c.name, d, impl.Cut{Ops: uncut}); said.Code == impl.DvWell && said.Number == 8 {
				handed++
			}
			if said.Code == impl.DvWell && said.Bank != reply.Bank && said.Number != 3 {
				t.Fatalf("%s: %+v", c.name, said)
			}
		}
		if handed > mostTries {
			t.Errorf("%s: it was handed on %d times", c.name, handed)
		}
		checkHands(t, c.name, d, before.Bank, 3)
	}
}

// Many actions, one behind the other, cut anywhere: each does what the chapter says, and the device stays good.
func TestManyActions(t *testing.T) {
	t.Parallel()
	for run := range 12 {
		t.Run(fmt.Sprint(run), func(t *testing.T) {
			t.Parallel()
			r := anySource(uint64(1160 + run))
			p := drawnParcel(r, 1, 0, 1+r.IntN(15), 1)
			d, _ := checkProvision(t, "first", ownArgs(p))
			floor := 0
			for i := range 45 {
				name := fmt.Sprintf("run %d, action %d", run, i)
				d = drawnAction(t, name, r, d, 2+i, floor+r.IntN(2))
				checkGood(t, name, d)
				state, _ := impl.StateOf(d)
				if state.Floor < floor {
					t.Fatalf("%s: the Floor was %d, is %d", name, floor, state.Floor)
				}
				floor = state.Floor
			}
		})
	}
}

func drawnCut(r *rand.Rand, most int) impl.Cut {
	cut := impl.Cut{Ops: uncut, Mask: drawnBytes(r, r.IntN(5))}
	if r.IntN(3) == 0 {
		cut.Ops = r.IntN(most)
	}
	return cut
}

func drawnAction(t *testing.T, name string, r *rand.Rand, d impl.Device, number, floor int) impl.Device {
	t.Helper()
	state, _ := impl.StateOf(d)
	kind := r.IntN(5)
	switch {
	case kind == 0:
		d, _ = checkConfirm(t, name, d, drawnCut(r, 8))
	case kind < 3 && !state.Trial:
		p := drawnParcel(r, number, floor, 1+r.IntN(15), r.IntN(4))
		d, _ = checkInstall(t, name, d, p, drawnCut(r, 45))
	default:
		d, _ = checkPowerOn(t, name, d, drawnCut(r, 3))
	}
	return d
}
