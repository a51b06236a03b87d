package tests

import (
	"bytes"
	"crypto/sha256"
	"fmt"
	"math/rand/v2"
	"slices"
	"testing"

	"loop.example/g00412/impl"
)

// The limits as the chapter tells them, in numbers of their own.
const (
	bankSpan  = 20
	bankSize  = 1280
	envRoom   = 512
	mostEnv   = 510
	halfSpan  = 4
	mostCut   = 10000
	ownDevice = 7
	ownKey    = 4
	uncut     = -1
)

// op is an operation: an erase of a sector, or a program of bytes.
type op struct {
	erase bool
	at    int
	b     []byte
}

func eraseOf(sector int) op         { return op{erase: true, at: sector} }
func programOf(at int, b []byte) op { return op{at: at, b: b} }

func (o op) String() string {
	if o.erase {
		return fmt.Sprint("erase ", o.at)
	}
	return fmt.Sprintf("program %s at %d", tell(o.b), o.at)
}

// done does the operation with a mask; false: it is none, as the sector is worn out.
func (o op) done(f impl.Flash, mask []byte) (impl.Flash, bool) {
	var code int
	if o.erase {
		f, code = wantTornErase(f, o.at, mask)
	} else {
		f, code = wantTornProgram(f, o.at, o.b, mask)
	}
	if code != impl.FlWell && code != impl.FlWorn {
		panic(fmt.Sprint("the tests want what is no operation: ", o))
	}
	return f, code == impl.FlWell
}

// model acts on a device as the chapter says, in lists of operations.
type model struct {
	impl.Device
	cut   impl.Cut
	count int
}

// run does all of them and answers DvWell, or ends with the code of what came between.
func (m *model) run(ops []op) int {
	for _, o := range ops {
		mask := []byte{255}
		if m.count == m.cut.Ops {
			mask = m.cut.Mask
		}
		f, ok := o.done(m.Flash, mask)
		if !ok {
			return impl.DvFlash
		}
		m.Flash = f
		m.count++
		if m.count == m.cut.Ops+1 {
			return impl.DvCrash
		}
	}
	return impl.DvWell
}

func (m *model) reply(code int) (impl.Device, impl.Reply) {
	return m.Device, impl.Reply{Code: code, Ops: m.count}
}

func (m *model) well(bank, number int) (impl.Device, impl.Reply) {
	return m.Device, impl.Reply{Code: impl.DvWell, Bank: bank, Number: number, Ops: m.count}
}

func copyDevice(d impl.Device) impl.Device { return roomyCopy(d, 0) }

func newModel(d impl.Device, cut impl.Cut) *model { return &model{Device: copyDevice(d), cut: cut} }

func wantDeviceOk(d impl.Device) bool {
	return within(d.Id, 0, mostVersion) && wantKeysOk(d.Keys) && wantFlashOk(d.Flash)
}

func wantCutOk(c impl.Cut) bool { return within(c.Ops, uncut, mostCut) && len(c.Mask) <= mostMask }

// logView is a half that counts.
type logView struct {
	half, head, used int
	state            impl.Boot
}

func halfBytesOf(f impl.Flash, half int) []byte {
	return f.Bytes[logStart+half*halfSize : logStart+(half+1)*halfSize]
}

func wantHalf(f impl.Flash, half int) (logView, bool) {
	b := halfBytesOf(f, half)
	head, ok := wantRecGet(b[:recSize])
	records, used := wantScan(b)
	state, fine := wantFold(records)
	return logView{half, head.Number, used, state}, ok && head.Kind == kindHead && fine
}

func wantLog(f impl.Flash) (logView, bool) {
	var best logView
	found := false
	for half := range 2 {
		if l, ok := wantHalf(f, half); ok && (!found || l.head > best.head) {
			best, found = l, true
		}
	}
	return best, found
}

func wantState(d impl.Device) (impl.Boot, bool) {
	if !wantDeviceOk(d) {
		return impl.Boot{}, false
	}
	l, ok := wantLog(d.Flash)
	return l.state, ok
}

func partStart(bank, kind int) int { return bank*bankSize + envRoom + kind*mostSize }

// wantBank is all that a sound bank has; else its code.
func wantBank(d impl.Device, bank int) (parcel, int) {
	if !wantDeviceOk(d) || !within(bank, 0, 1) {
		return parcel{}, impl.DvForm
	}
	b := d.Flash.Bytes[bank*bankSize : (bank+1)*bankSize]
	length := int(b[0]) | int(b[1])<<8
	if length > mostEnv {
		return parcel{}, impl.BuForm
	}
	env := b[2 : 2+length]
	if code := wantCode(env, d.Keys, d.Id, 0); code != impl.BuWell {
		return parcel{}, code
	}
	bundle, _ := wantRead(env[bundleAt:])
	p := parcel{bundle: bundle, env: env}
	for _, part := range bundle.Parts {
		at := envRoom + part.Kind*mostSize
		p.datas = append(p.datas, b[at:at+part.Size])
	}
	if !p.fits() {
		return parcel{}, impl.DvData
	}
	return p, impl.BuWell
}

func wantLetIn(d impl.Device, env []byte, datas [][]byte, floor int) (parcel, int) {
	if len(env) > mostEnv || len(datas) > mostParts {
		return parcel{}, impl.DvForm
	}
	if code := wantCode(env, d.Keys, d.Id, floor); code != impl.BuWell {
		return parcel{}, code
	}
	bundle, _ := wantRead(env[bundleAt:])
	p := parcel{bundle, env, datas}
	if !p.fits() {
		return parcel{}, impl.DvData
	}
	return p, impl.BuWell
}

func erasesOf(sector, count int) []op {
	var out []op
	for i := range count {
		out = append(out, eraseOf(sector+i))
	}
	return out
}

// piecesOf: a program for each sector in which the bytes lie, wherever they begin.
func piecesOf(at int, b []byte) []op {
	var out []op
	for len(b) > 0 {
		n := min(len(b), sectorSize-at%sectorSize)
		out = append(out, programOf(at, b[:n]))
		at, b = at+n, b[n:]
	}
	return out
}

func wantPut(bank int, p parcel) []op {
	out := erasesOf(bank*bankSpan, bankSpan)
	for i, part := range p.bundle.Parts {
		out = append(out, piecesOf(partStart(bank, part.Kind), p.datas[i])...)
	}
	return append(out, piecesOf(bank*bankSize, p.bankBytes())...)
}

func recordAt(half, place int, r impl.Rec) op {
	return programOf(logStart+half*halfSize+place*recSize, wantRecBytes(r))
}

func wantTurn(l logView) []op {
	other := (l.half + 1) % 2
	out := erasesOf(logStart/sectorSize+other*halfSpan, halfSpan)
	for i, r := range wantSummary(l.state) {
		out = append(out, recordAt(other, 1+i, r))
	}
	return append(out, recordAt(other, 0, recOf(kindHead, 0, l.head+1, 0)))
}

// wantWrite is false where the record can't be written.
func wantWrite(f impl.Flash, r impl.Rec) ([]op, bool) {
	l, ok := wantLog(f)
	switch {
	case !ok:
		return nil, false
	case l.used < allPlaces:
		return []op{recordAt(l.half, l.used, r)}, true
	case l.head == mostVersion:
		return nil, false
	}
	return append(wantTurn(l), recordAt((l.half+1)%2, 1+len(wantSummary(l.state)), r)), true
}

// write answers DvWell where the record is written, else the code of what came between.
func (m *model) write(r impl.Rec) int {
	ops, ok := wantWrite(m.Flash, r)
	if !ok {
		return impl.DvLog
	}
	return m.run(ops)
}

func wantProvision(id int, keys []impl.Key, env []byte, datas [][]byte) (impl.Device, int) {
	m := newModel(impl.Device{Id: id, Keys: keys, Flash: flashOf(255, 0)}, impl.Cut{Ops: uncut})
	if !wantDeviceOk(m.Device) {
		return impl.Device{}, impl.DvForm
	}
	p, code := wantLetIn(m.Device, env, datas, 0)
	if code != impl.BuWell {
		return impl.Device{}, code
	}
	m.run(wantPut(0, p))
	m.run([]op{recordAt(0, 0, recOf(kindHead, 0, 1, 0)), recordAt(0, 1, recOf(kindSet, 0, p.bundle.Number, p.bundle.Floor))})
	return m.Device, impl.DvWell
}

func wantInstall(d impl.Device, env []byte, datas [][]byte, cut impl.Cut) (impl.Device, impl.Reply) {
	if !wantDeviceOk(d) || !wantCutOk(cut) {
		return impl.Device{}, impl.Reply{Code: impl.DvForm}
	}
	m := newModel(d, cut)
	state, ok := wantState(d)
	if !ok {
		return m.reply(impl.DvLog)
	}
	if state.Trial {
		return m.reply(impl.DvTrial)
	}
	p, code := wantLetIn(d, env, datas, state.Floor)
	if code != impl.BuWell {
		return m.reply(code)
	}
	bank := (state.Bank + 1) % 2
	if code := m.run(wantPut(bank, p)); code != impl.DvWell {
		return m.reply(code)
	}
	if code := m.write(recOf(kindDo, bank, p.bundle.Number, 0)); code != impl.DvWell {
		return m.reply(code)
	}
	return m.well(bank, p.bundle.Number)
}

func wantPowerOn(d impl.Device, cut impl.Cut) (impl.Device, impl.Reply) {
	if !wantDeviceOk(d) || !wantCutOk(cut) {
		return impl.Device{}, impl.Reply{Code: impl.DvForm}
	}
	m := newModel(d, cut)
	state, ok := wantState(d)
	if !ok {
		return m.reply(impl.DvLog)
	}
	if state.Trial {
		r := recOf(kindTry, 0, 0, 0)
		if _, code := wantBank(d, state.Bank); code != impl.BuWell || state.Tries == mostTries {
			r = recOf(kindBack, 0, 0, 0)
		}
		if code := m.write(r); code != impl.DvWell {
			return m.reply(code)
		}
		state, _ = wantStep(state, r)
	}
	p, code := wantBank(m.Device, state.Bank)
	if code != impl.BuWell || p.bundle.Number != state.Number || p.bundle.Floor < state.Floor {
		return m.reply(impl.DvRescue)
	}
	return m.well(state.Bank, state.Number)
}

func wantConfirm(d impl.Device, cut impl.Cut) (impl.Device, impl.Reply) {
	if !wantDeviceOk(d) || !wantCutOk(cut) {
		return impl.Device{}, impl.Reply{Code: impl.DvForm}
	}
	m := newModel(d, cut)
	state, ok := wantState(d)
	if !ok {
		return m.reply(impl.DvLog)
	}
	if !state.Trial {
		return m.reply(impl.DvNone)
	}
	p, code := wantBank(d, state.Bank)
	if code != impl.BuWell {
		return m.reply(impl.DvRescue)
	}
	if code := m.write(recOf(kindKeep, 0, 0, p.bundle.Floor)); code != impl.DvWell {
		return m.reply(code)
	}
	return m.well(state.Bank, state.Number)
}

// parcel is a bundle as it comes: its envelope, and its parts' data.
type parcel struct {
	bundle impl.Bundle
	env    []byte
	datas  [][]byte
}

func (p parcel) fits() bool {
	if len(p.datas) != len(p.bundle.Parts) {
		return false
	}
	for i, part := range p.bundle.Parts {
		if sum := sha256.Sum256(p.datas[i]); len(p.datas[i]) != part.Size || !bytes.Equal(sum[:], part.Hash) {
			return false
		}
	}
	return true
}

// bankBytes are what a bank begins with.
func (p parcel) bankBytes() []byte {
	return slices.Concat([]byte{byte(len(p.env)), byte(len(p.env) >> 8)}, p.env)
}

// signed makes the envelope anew; behind a change of the bundle it is wanted again.
func (p parcel) signed() parcel {
	p.env = wantEnvelope(wantBundleBytes(p.bundle), ownKey, anySeed(ownKey))
	return p
}

// edgeSizes lie at the ends of the sectors that a part has.
var edgeSizes = []int{1, 2, 63, 64, 65, 127, 128, 129, 191, 192}

// drawnParcel is for ownDevice, with a part for each bit of kinds, and that many needs, which it meets.
func drawnParcel(r *rand.Rand, number, floor, kinds, needs int) parcel {
	var sizes [mostParts]int
	for kind := range mostParts {
		if kinds>>kind&1 == 1 {
			sizes[kind] = edgeSizes[r.IntN(len(edgeSizes))]
		}
	}
	return parcelOfSizes(r, number, floor, sizes, needs)
}

// parcelOfSizes has no part of a kind whose size is 0.
func parcelOfSizes(r *rand.Rand, number, floor int, sizes [mostParts]int, needs int) parcel {
	p := parcel{bundle: impl.Bundle{Device: ownDevice, Number: number, Floor: floor}}
	for kind, size := range sizes {
		if size > 0 {
			data := drawnBytes(r, size)
			sum := sha256.Sum256(data)
			p.bundle.Parts = append(p.bundle.Parts, impl.Part{Kind: kind, Version: anyNumber(r, 0), Size: size, Hash: sum[:]})
			p.datas = append(p.datas, data)
		}
	}
	for len(p.bundle.Needs) < needs {
		before := p.bundle.Needs
		p.bundle.Needs = sortNeeds(append(slices.Clone(before), anyNeed(r)))
		if len(wantLacks(p.bundle)) > 0 {
			p.bundle.Needs = before
		}
	}
	return p.signed()
}

// parcelOfLength draws until the envelope has that many bytes.
func parcelOfLength(r *rand.Rand, number, floor, length int) parcel {
	for {
		if p := drawnParcel(r, number, floor, 1+r.IntN(15), r.IntN(mostNeeds+1)); len(p.env) == length {
			return p
		}
	}
}

// layBank writes a parcel into a bank by its bytes alone, over whatever is there.
func layBank(f impl.Flash, bank int, p parcel) {
	copy(f.Bytes[bank*bankSize:], p.bankBytes())
	for i, part := range p.bundle.Parts {
		copy(f.Bytes[partStart(bank, part.Kind):], p.datas[i])
	}
}

// layRecords makes a half have these records from its first place on, and none behind them.
func layRecords(f impl.Flash, half int, records ...impl.Rec) {
	b := halfBytesOf(f, half)
	copy(b, blankBytes(halfSize))
	for i, r := range records {
		copy(b[i*recSize:], wantRecBytes(r))
	}
}

// longLog has that many records, which come to the state; none of those between the first ones and its own does anything.
func longLog(head int, state impl.Boot, count int) []impl.Rec {
	summary := wantSummary(state)
	out := []impl.Rec{recOf(kindHead, 0, head, 0), summary[0]}
	for len(out) < count-len(summary)+1 {
		out = append(out, recOf([]int{kindTry, kindBack}[len(out)%2], 0, 0, 0))
	}
	return append(out, summary[1:]...)
}

// laidDevice has a log in that half and no other, and in the banks what state tells; both are sound.
func laidDevice(state impl.Boot, inUse, other parcel, half, head, count int) impl.Device {
	d := impl.Device{Id: ownDevice, Keys: plainKeys(), Flash: flashOf(255, 3)}
	layBank(d.Flash, state.Bank, inUse)
	layBank(d.Flash, (state.Bank+1)%2, other)
	layRecords(d.Flash, half, longLog(head, state, count)...)
	return d
}

// deviceCase is a device with a name.
type deviceCase struct {
	name   string
	device impl.Device
}

func isSameDevice(a, b impl.Device) bool { return sameAnswer(a, b) }

// tellDifference names where two devices are not alike, as they are too long to be shown.
func tellDifference(got, want impl.Device) string {
	if len(got.Flash.Bytes) != len(want.Flash.Bytes) || got.Id != want.Id || !sameAnswer(got.Keys, want.Keys) {
		return fmt.Sprintf("Id %d, %d keys, %d bytes, want %d, %d, %d", got.Id, len(got.Keys), len(got.Flash.Bytes), want.Id, len(want.Keys), len(want.Flash.Bytes))
	}
	for i := range want.Flash.Bytes {
		if got.Flash.Bytes[i] != want.Flash.Bytes[i] {
			return fmt.Sprintf("the byte %d (of the sector %d) is %x, want %x", i, i/sectorSize, got.Flash.Bytes[i], want.Flash.Bytes[i])
		}
	}
	return fmt.Sprintf("Wear %v, want %v", got.Flash.Wear, want.Flash.Wear)
}

func checkActed(t *testing.T, name string, got impl.Device, reply impl.Reply, want impl.Device, wantReply impl.Reply) {
	t.Helper()
	if reply != wantReply {
		t.Fatalf("%s: %+v, want %+v", name, reply, wantReply)
	}
	if !isSameDevice(got, want) {
		t.Fatalf("%s: %+v: %s", name, reply, tellDifference(got, want))
	}
}

func tellCut(c impl.Cut) string { return fmt.Sprintf("cut at %d by %s", c.Ops, tell(c.Mask)) }

func checkInstall(t *testing.T, name string, d impl.Device, p parcel, cut impl.Cut) (impl.Device, impl.Reply) {
	t.Helper()
	got, reply := impl.Install(d, p.env, p.datas, cut)
	want, wantReply := wantInstall(d, p.env, p.datas, cut)
	checkActed(t, name+": Install "+tellCut(cut), got, reply, want, wantReply)
	return got, reply
}

func checkPowerOn(t *testing.T, name string, d impl.Device, cut impl.Cut) (impl.Device, impl.Reply) {
	t.Helper()
	got, reply := impl.PowerOn(d, cut)
	want, wantReply := wantPowerOn(d, cut)
	checkActed(t, name+": PowerOn "+tellCut(cut), got, reply, want, wantReply)
	if reply.Code == impl.DvWell {
		checkHandedOn(t, name, got, reply)
	}
	return got, reply
}

func checkConfirm(t *testing.T, name string, d impl.Device, cut impl.Cut) (impl.Device, impl.Reply) {
	t.Helper()
	got, reply := impl.Confirm(d, cut)
	want, wantReply := wantConfirm(d, cut)
	checkActed(t, name+": Confirm "+tellCut(cut), got, reply, want, wantReply)
	return got, reply
}

// checkHandedOn holds promise 11 of what was handed on, by the flash's bytes.
func checkHandedOn(t *testing.T, name string, d impl.Device, reply impl.Reply) {
	t.Helper()
	state, ok := wantState(d)
	if !ok || state.Bank != reply.Bank || state.Number != reply.Number {
		t.Fatalf("%s: %+v was handed on, the state is %+v, %v", name, reply, state, ok)
	}
	b := d.Flash.Bytes[reply.Bank*bankSize:][:bankSize]
	length := int(b[0]) | int(b[1])<<8
	if length > mostEnv {
		t.Fatalf("%s: the envelope has %d bytes", name, length)
	}
	env := b[2 : 2+length]
	if code := wantCode(env, d.Keys, d.Id, state.Floor); code != impl.BuWell {
		t.Fatalf("%s: the envelope's code is %d", name, code)
	}
	bundle, _ := wantRead(env[bundleAt:])
	if bundle.Number != state.Number || bundle.Floor < state.Floor || bundle.Device != d.Id || len(wantLacks(bundle)) > 0 {
		t.Fatalf("%s: %+v was handed on, the state is %+v", name, bundle, state)
	}
	for _, part := range bundle.Parts {
		at := envRoom + part.Kind*mostSize
		if sum := sha256.Sum256(b[at : at+part.Size]); !bytes.Equal(sum[:], part.Hash) {
			t.Fatalf("%s: the part %d is another one", name, part.Kind)
		}
	}
}

// tellBad is empty for a good device.
func tellBad(d impl.Device) string {
	state, ok := wantState(d)
	if !ok || !wantBootOk(state) {
		return fmt.Sprintf("the state is %+v, %v", state, ok)
	}
	if why := tellBadBank(d, state.Bank, state.Number, state.Floor); why != "" || !state.Trial {
		return why
	}
	return tellBadBank(d, (state.Bank+1)%2, state.Old, state.Floor)
}

func tellBadBank(d impl.Device, bank, number, floor int) string {
	p, code := wantBank(d, bank)
	if code != impl.BuWell || p.bundle.Number != number || p.bundle.Floor < floor {
		return fmt.Sprintf("the bank %d has the code %d, Number %d and Floor %d; Number %d and Floor %d are asked for",
			bank, code, p.bundle.Number, p.bundle.Floor, number, floor)
	}
	return ""
}

func checkGood(t *testing.T, name string, d impl.Device) {
	t.Helper()
	if why := tellBad(d); why != "" {
		t.Fatalf("%s: the device is not good: %s", name, why)
	}
}

// The tests' own model is held against named devices, so that it can't drift along with the program.
func TestModelOfDevices(t *testing.T) {
	r := anySource(1100)
	old, other := drawnParcel(r, 3, 2, 5, 1), drawnParcel(r, 4, 2, 15, 8)
	good := laidDevice(bootOf(1, 3, 2), old, other, 1, 9, 20)
	if why := tellBad(good); why != "" {
		t.Fatal(why)
	}
	if l, ok := wantLog(good.Flash); !ok || l != (logView{1, 9, 20, bootOf(1, 3, 2)}) {
		t.Errorf("the log is %+v, %v", l, ok)
	}
	for bank, p := range []parcel{other, old} {
		got, code := wantBank(good, bank)
		if code != impl.BuWell || !bytes.Equal(got.env, p.env) || !slices.EqualFunc(got.datas, p.datas, bytes.Equal) {
			t.Errorf("the bank %d: %d", bank, code)
		}
	}
	for name, spoilt := range map[string]func(d impl.Device){
		"no log":         func(d impl.Device) { layRecords(d.Flash, 1) },
		"another Number": func(d impl.Device) { layRecords(d.Flash, 1, longLog(9, bootOf(1, 4, 2), 9)...) },
		"a Floor above":  func(d impl.Device) { layRecords(d.Flash, 1, longLog(9, bootOf(1, 3, 3), 9)...) },
		"the other bank": func(d impl.Device) { layRecords(d.Flash, 1, longLog(9, bootOf(0, 3, 2), 9)...) },
		"another Old":    func(d impl.Device) { layRecords(d.Flash, 1, longLog(9, trialOf(1, 3, 2, 0, 5), 9)...) },
		"a byte of data": func(d impl.Device) { d.Flash.Bytes[partStart(1, 2)] ^= 1 },
	} {
		d := copyDevice(good)
		spoilt(d)
		if tellBad(d) == "" {
			t.Errorf("%s: the device is taken for a good one", name)
		}
	}
}
