package tests

import (
	"math"
	"reflect"
	"runtime"
	"slices"
	"testing"

	"loop.example/g00412/impl"
)

type deviceAnswer struct {
	Device impl.Device
	Code   int
}

type actArgs struct {
	Device impl.Device
	Env    []byte
	Datas  [][]byte
	Cut    impl.Cut
}

type actAnswer struct {
	Device impl.Device
	Reply  impl.Reply
}

type bankArgs struct {
	Device impl.Device
	Bank   int
}

type bankAnswer struct {
	Env   []byte
	Datas [][]byte
	Ok    bool
}

func callProvision(a provisionArgs) deviceAnswer {
	d, code := impl.Provision(a.Id, a.Keys, a.Env, a.Datas)
	return deviceAnswer{d, code}
}

func callInstall(a actArgs) actAnswer {
	d, reply := impl.Install(a.Device, a.Env, a.Datas, a.Cut)
	return actAnswer{d, reply}
}

func callPowerOn(a actArgs) actAnswer {
	d, reply := impl.PowerOn(a.Device, a.Cut)
	return actAnswer{d, reply}
}

func callConfirm(a actArgs) actAnswer {
	d, reply := impl.Confirm(a.Device, a.Cut)
	return actAnswer{d, reply}
}

func callStateOf(d impl.Device) bootAnswer {
	b, ok := impl.StateOf(d)
	return bootAnswer{b, ok}
}

func callSound(a bankArgs) openedAnswer {
	b, code := impl.Sound(a.Device, a.Bank)
	return openedAnswer{b, code}
}

func callBankOf(a bankArgs) bankAnswer {
	env, datas, ok := impl.BankOf(a.Device, a.Bank)
	return bankAnswer{env, datas, ok}
}

// memoryDevices: with a Trial and without, with a full log and not, with none, and of wrong form.
func memoryDevices() []impl.Device {
	old, p := sizedParcel(3, 2, 3, 0, 0, 0), sizedParcel(4, 2, 1, 2, 0, 0)
	out := []impl.Device{
		laidDevice(bootOf(0, 3, 2), old, p, 0, 5, 9),
		laidDevice(trialOf(1, 4, 2, 1, 3), p, old, 0, 5, 9),
		laidDevice(bootOf(0, 3, 2), old, p, 0, 5, 32),
		laidDevice(trialOf(1, 4, 2, 3, 3), p, old, 1, 5, 32),
		laidDevice(trialOf(1, 4, 2, 1, 3), p, old, 0, 1000, 32),
		{Id: ownDevice, Keys: plainKeys(), Flash: flashOf(255, 0)},
		{Id: ownDevice, Flash: flashOf(0, mostWear)},
	}
	for _, c := range wrongDevices() {
		d := laidDevice(bootOf(0, 3, 2), old, p, 0, 5, 9)
		c.do(&d)
		out = append(out, d)
	}
	return out
}

func TestDeviceMemory(t *testing.T) {
	t.Parallel()
	p := sizedParcel(6, 2, 10, 0, 65, 0)
	for _, d := range memoryDevices() {
		checkCall(t, "DeviceOk", d, impl.DeviceOk)
		checkCall(t, "StateOf", d, callStateOf)
		for _, bank := range []int{-1, 0, 1, 2} {
			checkCall(t, "Sound", bankArgs{d, bank}, callSound)
			checkCall(t, "BankOf", bankArgs{d, bank}, callBankOf)
		}
		for _, cut := range []impl.Cut{{Ops: uncut}, {Ops: 0, Mask: []byte{0x5a, 0xf0}}, {Ops: 22, Mask: make([]byte, mostMask)}, {Ops: 0}, {Ops: 0, Mask: make([]byte, 257)}} {
			a := actArgs{Device: d, Env: p.env, Datas: p.datas, Cut: cut}
			checkCall(t, "CutOk", cut, impl.CutOk)
			checkCall(t, "Install", a, callInstall)
			checkCall(t, "PowerOn", a, callPowerOn)
			checkCall(t, "Confirm", a, callConfirm)
		}
	}
}

// A refusal answers the device itself, as it was: that is new memory, too.
func TestRefusalMemory(t *testing.T) {
	t.Parallel()
	p := sizedParcel(6, 2, 10, 0, 65, 0)
	d := laidDevice(bootOf(0, 3, 2), sizedParcel(3, 2, 3, 0, 0, 0), sizedParcel(4, 2, 1, 2, 0, 0), 0, 5, 9)
	for _, a := range []actArgs{
		{d, nil, nil, impl.Cut{Ops: uncut}}, {d, []byte{}, [][]byte{}, impl.Cut{Ops: uncut}}, {d, p.env, nil, impl.Cut{Ops: uncut}},
		{d, p.env, [][]byte{nil, nil}, impl.Cut{Ops: uncut}}, {d, p.env, make([][]byte, 5), impl.Cut{Ops: uncut}}, {d, turned(p.env, 0), p.datas, impl.Cut{Ops: uncut}},
		{d, make([]byte, 511), p.datas, impl.Cut{Ops: uncut}}, {d, p.env, p.datas[:1], impl.Cut{Ops: uncut}},
	} {
		checkCall(t, "Install", a, callInstall)
		if got := callInstall(a); got.Reply.Code == impl.DvWell || !isSameDevice(got.Device, d) {
			t.Errorf("%+v, and %s", got.Reply, tellDifference(got.Device, d))
		}
	}
}

func TestProvisionMemory(t *testing.T) {
	t.Parallel()
	p := sizedParcel(6, 2, 10, 0, 65, 0)
	for _, a := range []provisionArgs{
		{}, ownArgs(p), {ownDevice, nil, p.env, p.datas}, {-1, plainKeys(), p.env, p.datas}, {ownDevice, plainKeys(), p.env, nil},
		{ownDevice, plainKeys(), nil, p.datas}, {ownDevice, plainKeys(), p.env, make([][]byte, 5)}, {ownDevice, keysOf(4, 3), p.env, p.datas},
	} {
		checkCall(t, "Provision", a, callProvision)
	}
}

// Keys whose Pubs are one list, and data that are, too: no two lists of the answer share any memory, nor with the arguments.
func TestDeviceListsThatAreOne(t *testing.T) {
	t.Parallel()
	r := anySource(1300)
	p := parcelOfSizes(r, 6, 2, [mostParts]int{64, 64, 0, 0}, 0)
	p.datas[1], p.bundle.Parts[1].Hash = p.datas[0], p.bundle.Parts[0].Hash
	p = p.signed()
	keys := []impl.Key{bundleKey(4), bundleKey(5), bundleKey(6)}
	keys[1].Pub, keys[2].Pub = keys[0].Pub, keys[0].Pub
	d, code := impl.Provision(ownDevice, keys, p.env, p.datas)
	if code != impl.DvWell {
		t.Fatal(code)
	}
	shared := d
	shared.Keys = keys
	env, datas, ok := impl.BankOf(shared, 0)
	bundle, _ := impl.Sound(shared, 0)
	answers := []any{keys[0], d, bankAnswer{env, datas, ok}, bundle}
	for _, do := range []acting{installing(shared, p), poweringOn(shared), confirming(shared), installing(shared, parcel{})} {
		got, _ := do(impl.Cut{Ops: uncut})
		answers = append(answers, got)
	}
	var spans []span
	for _, one := range answers {
		spans = append(spans, spansOf(reflect.ValueOf(one))...)
	}
	if anyShared(spans) || len(datas) != 2 {
		t.Error("lists of answers share memory")
	}
	runtime.KeepAlive(answers)
}

// What was answered once may be spoilt: what is answered next is as it was.
func TestDevicesAreNotKept(t *testing.T) {
	t.Parallel()
	p := sizedParcel(6, 2, 10, 0, 65, 0)
	for range 2 {
		d, _ := checkProvision(t, "again", ownArgs(p))
		next, _ := checkInstall(t, "again", d, p, impl.Cut{Ops: uncut})
		kept, _ := checkConfirm(t, "again", next, impl.Cut{Ops: uncut})
		handed, _ := checkPowerOn(t, "again", kept, impl.Cut{Ops: uncut})
		for _, one := range []impl.Device{d, next, kept, handed} {
			env, datas, _ := impl.BankOf(one, 0)
			for _, list := range append(datas, env, one.Flash.Bytes, one.Keys[0].Pub) {
				spoil(list)
			}
			spoil(one.Flash.Wear)
		}
	}
}

// A panic at any of these ends the test.
func TestDevicesOfAnyArgument(t *testing.T) {
	t.Parallel()
	r := anySource(1301)
	numbers := []int{math.MinInt, -1, 0, 1, 7, 1000, 1001, math.MaxInt}
	keyLists := [][]impl.Key{nil, {}, {{}}, make([]impl.Key, 9), plainKeys()}
	flashes := []impl.Flash{{}, {Bytes: make([]byte, wholeSize)}, flashOf(255, 0), flashOf(0, mostWear), mixedFlash(), flashOf(0, -1)}
	masks := [][]byte{nil, {}, {255}, make([]byte, 257), make([]byte, 1<<16)}
	parcels := []parcel{{}, {env: []byte{}, datas: [][]byte{}}, {env: drawnBytes(r, 510), datas: [][]byte{nil}}, {env: make([]byte, 1<<16), datas: make([][]byte, 100)}}
	for i, n := range numbers {
		for k, keys := range keyLists {
			for _, f := range flashes {
				d := impl.Device{Id: n, Keys: keys, Flash: f}
				if impl.DeviceOk(d) != wantDeviceOk(d) {
					t.Fatalf("DeviceOk of the Id %d", n)
				}
				cut := impl.Cut{Ops: numbers[(i+k)%len(numbers)], Mask: masks[(i+k)%len(masks)]}
				checkState(t, "any", d)
				checkBank(t, "any", d, n)
				checkPowerOn(t, "any", d, cut)
				checkConfirm(t, "any", d, cut)
				for _, p := range parcels {
					checkInstall(t, "any", d, p, cut)
				}
			}
			for _, p := range parcels {
				checkProvision(t, "any", provisionArgs{n, keys, p.env, p.datas})
			}
		}
	}
}

// A flash of any bytes at all, with a log that has a state: whatever it says, all actions answer.
func TestDevicesOfAnyFlash(t *testing.T) {
	t.Parallel()
	r := anySource(1302)
	p := sizedParcel(6, 2, 10, 0, 65, 0)
	for i := range 150 {
		d := impl.Device{Id: ownDevice, Keys: plainKeys(), Flash: drawnFlash(r, mostWear)}
		if i%3 == 0 {
			d.Flash.Wear = slices.Repeat([]int{i % 7}, allSectors)
		}
		for bank := range 2 {
			if r.IntN(2) == 0 {
				layBank(d.Flash, bank, p)
			}
		}
		layRecords(d.Flash, i%2, drawnHistory(r, 2+r.IntN(31))...)
		cut := drawnCut(r, 45)
		p.bundle.Floor = r.IntN(1001)
		p = p.signed()
		checkInstall(t, "any flash", d, p, cut)
		checkPowerOn(t, "any flash", d, cut)
		checkConfirm(t, "any flash", d, cut)
	}
}
