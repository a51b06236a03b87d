package tests

import (
	"bytes"
	"fmt"
	"math"
	"slices"
	"testing"

	"loop.example/g00412/impl"
)

func TestDeviceConstants(t *testing.T) {
	got := []int{impl.BankSectors, impl.EnvBytes, impl.LogAt, impl.DvWell, impl.DvForm, impl.DvTrial, impl.DvData, impl.DvFlash, impl.DvLog,
		impl.DvRescue, impl.DvNone, impl.DvCrash}
	if want := []int{20, 512, 2560, 0, 1, 8, 9, 10, 11, 12, 13, 20}; !slices.Equal(got, want) {
		t.Errorf("constants %v, want %v", got, want)
	}
}

func TestDeviceOk(t *testing.T) {
	for _, id := range []int{math.MinInt, -1, 0, 1, 999, 1000, 1001, 1<<32 + 1, math.MaxInt} {
		d := impl.Device{Id: id, Keys: plainKeys(), Flash: flashOf(255, 0)}
		if got := impl.DeviceOk(d); got != within(id, 0, 1000) {
			t.Errorf("the Id %d: DeviceOk %v", id, got)
		}
	}
	for _, keys := range [][]impl.Key{nil, {}, plainKeys(), keysOf(0, 1, 2, 3, 4, 5, 6, 7), keysOf(0, 1, 2, 3, 4, 5, 6, 7, 8), keysOf(4, 4), keysOf(5, 4),
		keysOf(255), keysOf(256), keysOf(-1), {{}}, {{Role: 2}}, {{Role: 3, Pub: make([]byte, 32)}}} {
		d := impl.Device{Id: 7, Keys: keys, Flash: flashOf(255, 0)}
		if got := impl.DeviceOk(d); got != wantKeysOk(keys) {
			t.Errorf("%d keys: DeviceOk %v", len(keys), got)
		}
	}
	for _, c := range slices.Concat(flashesOfForm(), manyFlashes()) {
		d := impl.Device{Id: 7, Keys: plainKeys(), Flash: c.flash}
		if got := impl.DeviceOk(d); got != wantFlashOk(c.flash) {
			t.Errorf("%s: DeviceOk %v", c.name, got)
		}
	}
	if impl.DeviceOk(impl.Device{}) {
		t.Error("DeviceOk of the zero value")
	}
}

func TestCutOk(t *testing.T) {
	for _, ops := range []int{math.MinInt, -10000, -2, -1, 0, 1, 9999, 10000, 10001, 1 << 32, math.MaxInt} {
		for _, count := range []int{0, 1, 255, 256, 257, 512, 1000} {
			c := impl.Cut{Ops: ops, Mask: make([]byte, count)}
			if got := impl.CutOk(c); got != (within(ops, -1, 10000) && count <= 256) {
				t.Errorf("Ops %d, %d bytes: CutOk %v", ops, count, got)
			}
		}
	}
	if !impl.CutOk(impl.Cut{}) {
		t.Error("CutOk of the zero value")
	}
}

type provisionArgs struct {
	Id    int
	Keys  []impl.Key
	Env   []byte
	Datas [][]byte
}

// ownArgs: the parcel is let in by these.
func ownArgs(p parcel) provisionArgs { return provisionArgs{ownDevice, plainKeys(), p.env, p.datas} }

func checkProvision(t *testing.T, name string, a provisionArgs) (impl.Device, int) {
	t.Helper()
	got, code := impl.Provision(a.Id, a.Keys, a.Env, a.Datas)
	want, wantCode := wantProvision(a.Id, a.Keys, a.Env, a.Datas)
	if code != wantCode {
		t.Fatalf("%s: Provision: the code %d, want %d", name, code, wantCode)
	}
	if !isSameDevice(got, want) {
		t.Fatalf("%s: Provision: %s", name, tellDifference(got, want))
	}
	return got, code
}

// checkBank: Sound, BankOf and the model tell the same of a bank.
func checkBank(t *testing.T, name string, d impl.Device, bank int) int {
	t.Helper()
	want, wantCode := wantBank(d, bank)
	if got, code := impl.Sound(d, bank); code != wantCode || !sameAnswer(got, want.bundle) {
		t.Fatalf("%s: Sound of %d = %+v, %d, want %+v, %d", name, bank, got, code, want.bundle, wantCode)
	}
	env, datas, ok := impl.BankOf(d, bank)
	if ok != (wantCode == impl.BuWell) || !bytes.Equal(env, want.env) || !slices.EqualFunc(datas, want.datas, bytes.Equal) {
		t.Fatalf("%s: BankOf %d = %s, %d datas, %v", name, bank, tell(env), len(datas), ok)
	}
	return wantCode
}

func checkState(t *testing.T, name string, d impl.Device) (impl.Boot, bool) {
	t.Helper()
	got, ok := impl.StateOf(d)
	if want, wantOk := wantState(d); ok != wantOk || got != want {
		t.Fatalf("%s: StateOf = %+v, %v, want %+v, %v", name, got, ok, want, wantOk)
	}
	return got, ok
}

// checkProvisioned: the device is good, and has the parcel just as it came, by the program's own telling, too.
func checkProvisioned(t *testing.T, name string, p parcel) {
	t.Helper()
	d, code := checkProvision(t, name, ownArgs(p))
	if code != impl.DvWell || !impl.DeviceOk(d) {
		t.Fatalf("%s: Provision: %d", name, code)
	}
	checkGood(t, name, d)
	if state, ok := checkState(t, name, d); !ok || state != bootOf(0, p.bundle.Number, p.bundle.Floor) {
		t.Fatalf("%s: the state is %+v, %v", name, state, ok)
	}
	if bundle, code := impl.Sound(d, 0); code != impl.BuWell || !sameAnswer(bundle, p.bundle) {
		t.Fatalf("%s: Sound = %+v, %d, want %+v", name, bundle, code, p.bundle)
	}
	env, datas, ok := impl.BankOf(d, 0)
	if !ok || !bytes.Equal(env, p.env) || !slices.EqualFunc(datas, p.datas, bytes.Equal) {
		t.Fatalf("%s: BankOf is not what came: %s, %d datas, %v", name, tell(env), len(datas), ok)
	}
	if code := checkBank(t, name, d, 1); code != impl.BuForm {
		t.Fatalf("%s: the bank that has nothing: %d", name, code)
	}
}

func TestProvisionIsGood(t *testing.T) {
	t.Parallel()
	r := anySource(1101)
	for kinds := 1; kinds < 1<<mostParts; kinds++ {
		for _, needs := range []int{0, kinds % 4, mostNeeds - kinds%3} {
			p := drawnParcel(r, anyNumber(r, 1), anyNumber(r, 0), kinds, needs)
			checkProvisioned(t, fmt.Sprintf("the kinds %b with %d needs", kinds, needs), p)
		}
	}
	for _, floor := range []int{0, 1, 255, 256, 999, 1000} {
		for _, number := range []int{1, 255, 256, 1000} {
			checkProvisioned(t, fmt.Sprintf("the Number %d, the Floor %d", number, floor), drawnParcel(r, number, floor, 1, 0))
		}
	}
}

// The sectors are erased ahead of being programmed, though they are blank; the log's are not.
func TestProvisionWear(t *testing.T) {
	p := drawnParcel(anySource(1102), 3, 2, 15, 2)
	d, _ := impl.Provision(ownDevice, plainKeys(), p.env, p.datas)
	want := append(slices.Repeat([]int{1}, 20), make([]int, 28)...)
	if !slices.Equal(d.Flash.Wear, want) {
		t.Errorf("Wear %v", d.Flash.Wear)
	}
	records, used := impl.Scan(d.Flash.Bytes[2560:2816])
	if !slices.Equal(records, []impl.Rec{{Kind: 1, Number: 1}, {Kind: 2, Number: 3, Floor: 2}}) || used != 2 {
		t.Errorf("the first half has %v", records)
	}
	if !impl.Blank(d.Flash, 1280, 1280) || !impl.Blank(d.Flash, 2816, 256) {
		t.Error("the second bank and the second half are not blank")
	}
}

// Where each thing lies, byte by byte, beside all that must be blank.
func TestProvisionPlaces(t *testing.T) {
	for _, length := range []int{126, 127, 190, 191, 254, 255, 256, 257} {
		p := parcelOfLength(anySource(uint64(length)), 3, 2, length)
		d, code := impl.Provision(ownDevice, plainKeys(), p.env, p.datas)
		want := blankBytes(2560)
		want[0], want[1] = byte(length%256), byte(length/256)
		copy(want[2:], p.env)
		for i, part := range p.bundle.Parts {
			copy(want[512+192*part.Kind:], p.datas[i])
		}
		if code != impl.DvWell || !bytes.Equal(d.Flash.Bytes[:2560], want) {
			t.Errorf("an envelope of %d bytes: %d, the banks are not as they should", length, code)
		}
		checkProvisioned(t, fmt.Sprint("an envelope of ", length), p)
	}
}

// provisionReason makes an attempt one that is refused.
type provisionReason struct {
	name string
	code int
	do   func(a *provisionArgs, p *parcel)
}

func provisionReasons() [][]provisionReason {
	return [][]provisionReason{
		{
			{"the Id -1", impl.DvForm, func(a *provisionArgs, p *parcel) { a.Id = -1 }},
			{"the Id 1001", impl.DvForm, func(a *provisionArgs, p *parcel) { a.Id = 1001 }},
			{"keys out of order", impl.DvForm, func(a *provisionArgs, p *parcel) { slices.Reverse(a.Keys) }},
			{"five data", impl.DvForm, func(a *provisionArgs, p *parcel) {
				a.Datas = append(slices.Clone(a.Datas), make([][]byte, 5-len(a.Datas))...)
			}},
		},
		{
			{"a Number of 0", impl.BuForm, func(a *provisionArgs, p *parcel) { p.bundle.Number = 0 }},
		},
		{
			{"no key", impl.BuKey, func(a *provisionArgs, p *parcel) { a.Keys[0].Revoked = true }},
		},
		{
			{"another key", impl.BuSign, func(a *provisionArgs, p *parcel) { a.Keys[0].Pub = pubOf(99) }},
		},
		{
			{"another device", impl.BuDevice, func(a *provisionArgs, p *parcel) { p.bundle.Device = 8 }},
		},
		{
			{"a need", impl.BuNeeds, func(a *provisionArgs, p *parcel) {
				p.bundle.Needs = []impl.Need{{Of: p.bundle.Parts[0].Kind, Kind: 3, From: 0, To: 1000}}
			}},
		},
		{
			{"one datum too few", impl.DvData, func(a *provisionArgs, p *parcel) { a.Datas = a.Datas[:len(a.Datas)-1] }},
			{"one too many", impl.DvData, func(a *provisionArgs, p *parcel) { a.Datas = append(slices.Clone(a.Datas), a.Datas[0]) }},
			{"one that does not fit", impl.DvData, func(a *provisionArgs, p *parcel) { a.Datas[0][0] ^= 1 }},
			{"one byte more", impl.DvData, func(a *provisionArgs, p *parcel) { a.Datas[0] = append(slices.Clone(a.Datas[0]), 0) }},
			{"one byte less", impl.DvData, func(a *provisionArgs, p *parcel) { a.Datas[1] = a.Datas[1][:len(a.Datas[1])-1] }},
			{"out of order", impl.DvData, func(a *provisionArgs, p *parcel) { slices.Reverse(a.Datas) }},
		},
	}
}

// Each reason alone, and each two of other codes: the first one counts, and the zero value stands beside it.
func TestProvisionFirstReasonCounts(t *testing.T) {
	t.Parallel()
	groups := provisionReasons()
	for i, group := range groups {
		for _, first := range group {
			second := []provisionReason{{"nothing else", 0, func(*provisionArgs, *parcel) {}}}
			for _, later := range groups[i+1:] {
				second = append(second, later...)
			}
			for _, other := range second {
				p := drawnParcel(anySource(1103), 3, 2, 7, 2)
				a := ownArgs(p)
				other.do(&a, &p)
				first.do(&a, &p)
				a.Env = p.signed().env
				name := first.name + ", " + other.name
				if got, code := checkProvision(t, name, a); code != first.code || !isZero(got) {
					t.Errorf("%s: the code %d, want %d", name, code, first.code)
				}
			}
		}
	}
}

func TestProvisionEdges(t *testing.T) {
	t.Parallel()
	r := anySource(1104)
	for _, id := range []int{0, 1, 1000} {
		p := drawnParcel(r, 3, 0, 15, 0)
		p.bundle.Device = id
		p = p.signed()
		a := ownArgs(p)
		a.Id = id
		if _, code := checkProvision(t, "an Id", a); code != impl.DvWell {
			t.Errorf("the Id %d: %d", id, code)
		}
	}
	p := drawnParcel(r, 3, 0, 15, 0)
	for _, length := range []int{0, 64, 65, 509, 510, 511, 512, 2000, 2001, 1 << 16} {
		a := ownArgs(p)
		a.Env = slices.Concat(p.env, make([]byte, 1<<16))[:length]
		if got, code := checkProvision(t, "a length", a); code != 1 || !isZero(got) {
			t.Errorf("%d bytes: %d", length, code)
		}
	}
	for count := range 7 {
		a := ownArgs(p)
		a.Datas = slices.Concat(p.datas, p.datas)[:count]
		want := []int{impl.DvData, impl.DvData, impl.DvData, impl.DvData, impl.DvWell, impl.DvForm, impl.DvForm}[count]
		if _, code := checkProvision(t, "data", a); code != want {
			t.Errorf("%d data: %d, want %d", count, code, want)
		}
	}
	checkProvision(t, "nothing", provisionArgs{})
	checkProvision(t, "no key", provisionArgs{Id: ownDevice, Env: p.env, Datas: p.datas})
}

// soundCase changes a device whose bank 1 is sound.
type soundCase struct {
	name string
	code int
	do   func(d *impl.Device)
}

func soundCases(p parcel) []soundCase {
	last := p.bundle.Parts[len(p.bundle.Parts)-1]
	lay := func(d *impl.Device, change func(b *impl.Bundle)) {
		q := p
		q.bundle = roomyCopy(p.bundle, 0)
		change(&q.bundle)
		layBank(d.Flash, 1, q.signed())
	}
	return []soundCase{
		{"as it came", impl.BuWell, func(d *impl.Device) {}},
		{"no length", impl.BuForm, func(d *impl.Device) { d.Flash.Bytes[1280], d.Flash.Bytes[1281] = 0, 0 }},
		{"a length of 510", impl.BuForm, func(d *impl.Device) { d.Flash.Bytes[1280], d.Flash.Bytes[1281] = 254, 1 }},
		{"a length of 511", impl.BuForm, func(d *impl.Device) { d.Flash.Bytes[1280], d.Flash.Bytes[1281] = 255, 1 }},
		{"a length of 512", impl.BuForm, func(d *impl.Device) { d.Flash.Bytes[1280], d.Flash.Bytes[1281] = 0, 2 }},
		{"a length of 65535", impl.BuForm, func(d *impl.Device) { d.Flash.Bytes[1280], d.Flash.Bytes[1281] = 255, 255 }},
		{"the length the other way round", impl.BuForm, func(d *impl.Device) {
			d.Flash.Bytes[1280], d.Flash.Bytes[1281] = d.Flash.Bytes[1281], d.Flash.Bytes[1280]
		}},
		{"one byte less", impl.BuForm, func(d *impl.Device) { d.Flash.Bytes[1280]-- }},
		{"one byte more", impl.BuForm, func(d *impl.Device) { d.Flash.Bytes[1280]++ }},
		{"a Number of 0", impl.BuForm, func(d *impl.Device) { lay(d, func(b *impl.Bundle) { b.Number = 0 }) }},
		{"a Revoked key", impl.BuKey, func(d *impl.Device) { d.Keys[0].Revoked = true }},
		{"a root key", impl.BuKey, func(d *impl.Device) { d.Keys[0].Role = impl.KeyRoot }},
		{"no key", impl.BuKey, func(d *impl.Device) { d.Keys = nil }},
		{"another key", impl.BuSign, func(d *impl.Device) { d.Keys[0].Pub = pubOf(5) }},
		{"a turned signature", impl.BuSign, func(d *impl.Device) { d.Flash.Bytes[1282] ^= 1 }},
		{"another Id", impl.BuDevice, func(d *impl.Device) { d.Id++ }},
		{"a bundle of another device", impl.BuDevice, func(d *impl.Device) { lay(d, func(b *impl.Bundle) { b.Device-- }) }},
		{"a need", impl.BuNeeds, func(d *impl.Device) {
			lay(d, func(b *impl.Bundle) { b.Needs = []impl.Need{{Of: last.Kind, Kind: 1, From: 0, To: 1000}} })
		}},
		{"a Floor of 0", impl.BuWell, func(d *impl.Device) { lay(d, func(b *impl.Bundle) { b.Floor = 0 }) }},
		{"the first byte of data", impl.DvData, func(d *impl.Device) { d.Flash.Bytes[partStart(1, 0)] ^= 128 }},
		{"the last byte of data", impl.DvData, func(d *impl.Device) { d.Flash.Bytes[partStart(1, last.Kind)+last.Size-1] ^= 1 }},
		{"the byte behind the data", impl.BuWell, func(d *impl.Device) { d.Flash.Bytes[partStart(1, last.Kind)+last.Size] ^= 1 }},
		{"the byte behind the envelope", impl.BuWell, func(d *impl.Device) { d.Flash.Bytes[1282+len(p.env)] ^= 1 }},
		{"a kind that it has not", impl.BuWell, func(d *impl.Device) { clear(d.Flash.Bytes[partStart(1, 1):partStart(1, 2)]) }},
		{"the other bank", impl.BuWell, func(d *impl.Device) { clear(d.Flash.Bytes[:1280]) }},
		{"the log", impl.BuWell, func(d *impl.Device) { clear(d.Flash.Bytes[2560:]) }},
		{"a blank bank", impl.BuForm, func(d *impl.Device) { copy(d.Flash.Bytes[1280:2560], blankBytes(1280)) }},
		{"a bank of noughts", impl.BuForm, func(d *impl.Device) { clear(d.Flash.Bytes[1280:2560]) }},
	}
}

// wrongDevices change a device into one that is not DeviceOk.
func wrongDevices() []soundCase {
	return []soundCase{
		{"the Id -1", impl.DvForm, func(d *impl.Device) { d.Id = -1 }},
		{"the Id 1001", impl.DvForm, func(d *impl.Device) { d.Id = 1001 }},
		{"keys out of order", impl.DvForm, func(d *impl.Device) { slices.Reverse(d.Keys) }},
		{"a key without Pub", impl.DvForm, func(d *impl.Device) { d.Keys[4].Pub = nil }},
		{"a flash too short", impl.DvForm, func(d *impl.Device) { d.Flash.Bytes = d.Flash.Bytes[:3071] }},
		{"a flash too long", impl.DvForm, func(d *impl.Device) { d.Flash.Bytes = append(d.Flash.Bytes, 255) }},
		{"no flash", impl.DvForm, func(d *impl.Device) { d.Flash = impl.Flash{} }},
		{"a Wear of 201", impl.DvForm, func(d *impl.Device) { d.Flash.Wear[47] = 201 }},
		{"a Wear of -1", impl.DvForm, func(d *impl.Device) { d.Flash.Wear[0] = -1 }},
		{"the zero value", impl.DvForm, func(d *impl.Device) { *d = impl.Device{} }},
	}
}

// soundParcel has the kinds 0 and 2, none of them as long as may be.
func soundParcel() parcel {
	r := anySource(1105)
	for {
		p := drawnParcel(r, 3, 2, 5, 2)
		if p.bundle.Parts[1].Size < mostSize && len(p.env)%256 > 64 {
			return p
		}
	}
}

func TestSoundCodes(t *testing.T) {
	t.Parallel()
	p := soundParcel()
	for _, c := range append(soundCases(p), wrongDevices()...) {
		d := laidDevice(bootOf(1, 3, 2), p, p, 0, 1, 2)
		c.do(&d)
		if code := checkBank(t, c.name, d, 1); code != c.code {
			t.Errorf("%s: the tests want the code %d, not %d", c.name, code, c.code)
		}
		if got, code := impl.Sound(d, 1); code != c.code || code != impl.BuWell && !isZero(got) {
			t.Errorf("%s: Sound = %+v, %d, want %d", c.name, got, code, c.code)
		}
	}
}

func oneOf(first bool, a, b int) int {
	if first {
		return a
	}
	return b
}

func TestSoundBanks(t *testing.T) {
	t.Parallel()
	r := anySource(1106)
	first, second := drawnParcel(r, 3, 2, 5, 2), drawnParcel(r, 4, 2, 10, 2)
	d := laidDevice(bootOf(0, 3, 2), first, second, 0, 1, 2)
	for _, bank := range []int{math.MinInt, -2, -1, 0, 1, 2, 3, 256, 1 << 32, math.MaxInt} {
		code := checkBank(t, "a bank", d, bank)
		if want := oneOf(within(bank, 0, 1), impl.BuWell, impl.DvForm); code != want {
			t.Errorf("the bank %d: %d, want %d", bank, code, want)
		}
	}
	for bank, p := range []parcel{first, second} {
		if got, _ := impl.Sound(d, bank); !sameAnswer(got, p.bundle) {
			t.Errorf("the bank %d: %+v", bank, got)
		}
	}
}

// A bank whose length says anything at all, with a signed bundle behind it.
func TestSoundLengths(t *testing.T) {
	t.Parallel()
	for _, own := range []int{126, 255, 256} {
		p := parcelOfLength(anySource(uint64(1107+own)), 3, 2, own)
		for _, length := range []int{0, 1, 63, 64, 65, 66, own - 1, own, own + 1, 254, 255, 256, 257, 509, 510, 511, 512, 513, 767, 1024, own + 256, own + 512, 65279, 65535} {
			d := laidDevice(bootOf(0, 3, 2), p, p, 0, 1, 2)
			d.Flash.Bytes[0], d.Flash.Bytes[1] = byte(length), byte(length>>8)
			code := checkBank(t, fmt.Sprintf("%d of %d bytes", length, own), d, 0)
			if want := oneOf(length == own, impl.BuWell, impl.BuForm); code != want {
				t.Errorf("%d of %d bytes: %d, want %d", length, own, code, want)
			}
		}
	}
}

// halfCase is what a half has.
type halfCase struct {
	name   string
	counts bool
	rows   map[int][]byte
}

func rowsOf(records ...impl.Rec) map[int][]byte {
	rows := map[int][]byte{}
	for i, r := range records {
		rows[i] = wantRecBytes(r)
	}
	return rows
}

// halvesOf: halves with such a head, which count or not.
func halvesOf(head, number int) []halfCase {
	first, set := recOf(kindHead, 0, head, 0), recOf(kindSet, 1, number, 2)
	torn := bytes.Clone(wantRecBytes(first))
	torn[0] |= 1
	late := rowsOf(first, set)
	late[1], late[31] = make([]byte, recSize), late[1]
	return []halfCase{
		{"blank", false, nil},
		{"a head alone", false, rowsOf(first)},
		{"a set alone", false, rowsOf(set)},
		{"a set ahead of the head", false, rowsOf(set, first)},
		{"a head in the second place", false, map[int][]byte{1: wantRecBytes(first), 2: wantRecBytes(set)}},
		{"a torn head ahead of one", false, map[int][]byte{0: torn, 1: wantRecBytes(first), 2: wantRecBytes(set)}},
		{"two heads", false, rowsOf(first, first, set)},
		{"a try behind the head", false, rowsOf(first, recOf(kindTry, 0, 0, 0), set)},
		{"noughts", false, map[int][]byte{0: make([]byte, halfSize)}},
		{"a head and a set", true, rowsOf(first, set)},
		{"a blank place between", true, map[int][]byte{0: wantRecBytes(first), 2: wantRecBytes(set)}},
		{"a set in the last place", true, late},
		{"a trial", true, rowsOf(first, set, recOf(kindDo, 0, number, 0), recOf(kindTry, 0, 0, 0))},
	}
}

// Halves of which none, one or both count, with heads whose Number is less, alike and greater.
func TestStateOfHalves(t *testing.T) {
	seen := map[[3]int]int{}
	for _, heads := range [][2]int{{0, 0}, {0, 1}, {1, 0}, {5, 5}, {5, 6}, {6, 5}, {255, 256}, {256, 255}, {1000, 1000}, {999, 1000}, {1000, 999}, {0, 1000}} {
		for _, a := range halvesOf(heads[0], 11) {
			for _, b := range halvesOf(heads[1], 22) {
				d := impl.Device{Id: 7, Keys: plainKeys(), Flash: flashOf(255, 0)}
				copy(d.Flash.Bytes[2560:], halfWith(a.rows))
				copy(d.Flash.Bytes[2816:], halfWith(b.rows))
				name := fmt.Sprintf("%v: %s, %s", heads, a.name, b.name)
				got, ok := checkState(t, name, d)
				want := 0
				switch {
				case a.counts && (!b.counts || heads[0] >= heads[1]):
					want = 11
				case b.counts:
					want = 22
				}
				if ok != (want > 0) || got.Number != want {
					t.Errorf("%s: StateOf = %+v, %v, want the Number %d", name, got, ok, want)
				}
				seen[[3]int{oneOf(a.counts, 1, 0), oneOf(b.counts, 1, 0), want}]++
			}
		}
	}
	if len(seen) != 5 {
		t.Errorf("the ways that came are %v", seen)
	}
}

func TestStateOfWrongDevices(t *testing.T) {
	p := soundParcel()
	for _, c := range wrongDevices() {
		d := laidDevice(bootOf(1, 3, 2), p, p, 0, 1, 2)
		checkState(t, "well", d)
		c.do(&d)
		if got, ok := checkState(t, c.name, d); ok || got != (impl.Boot{}) {
			t.Errorf("%s: StateOf = %+v, %v", c.name, got, ok)
		}
	}
}

// What a state is hangs on the log alone, not on the banks.
func TestStateOfMany(t *testing.T) {
	r := anySource(1108)
	states := 0
	for range 1500 {
		d := impl.Device{Id: r.IntN(1001), Keys: plainKeys()[:r.IntN(5)], Flash: drawnFlash(r, mostWear)}
		for half := range 2 {
			layRecords(d.Flash, half, drawnHistory(r, 2+r.IntN(31))...)
			for range r.IntN(3) {
				copy(halfBytesOf(d.Flash, half)[recSize*r.IntN(allPlaces):], drawnRow(r))
			}
		}
		if state, ok := checkState(t, "drawn", d); ok {
			if !impl.BootOk(state) {
				t.Fatalf("the state %+v", state)
			}
			states++
		}
	}
	if states < 1000 {
		t.Errorf("only %d have a state", states)
	}
}
