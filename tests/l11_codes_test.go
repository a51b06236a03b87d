package tests

import (
	"slices"
	"testing"

	"loop.example/g00412/impl"
)

// attempt is all that an action is asked with, ahead of its being laid and signed.
type attempt struct {
	state      impl.Boot
	head, used int
	noLog      bool
	spoilt     []int
	worn       []int
	wrong      func(d *impl.Device)
	parcel     parcel
	key        int
	seed       []byte
	length     int
	cut        impl.Cut
}

// wellAttempt: in the bank 1 is the Number 4, in the bank 0 the Number 3; all three actions are well with the right state.
func wellAttempt(state impl.Boot) attempt {
	return attempt{state: state, head: 5, used: 12, wrong: func(*impl.Device) {}, parcel: sizedParcel(6, 2, 10, 0, 65, 0), key: ownKey, seed: anySeed(ownKey),
		cut: impl.Cut{Ops: uncut}}
}

func (a attempt) device() impl.Device {
	d := laidDevice(bootOf(1, 4, 2), sizedParcel(4, 2, 1, 2, 0, 0), sizedParcel(3, 2, 3, 0, 0, 0), 0, a.head, 2)
	layRecords(d.Flash, 0, longLog(a.head, a.state, a.used)...)
	if a.noLog {
		layRecords(d.Flash, 0)
	}
	for _, bank := range a.spoilt {
		d.Flash.Bytes[partStart(bank, 0)] ^= 1
	}
	for _, sector := range a.worn {
		d.Flash.Wear[sector] = mostWear
	}
	a.wrong(&d)
	return d
}

// signed is the parcel as it comes in, of length bytes where that is told.
func (a attempt) signed() parcel {
	p := a.parcel
	p.env = wantEnvelope(wantBundleBytes(p.bundle), a.key, a.seed)
	if a.length > 0 {
		p.env = append(p.env, make([]byte, a.length-len(p.env))...)
	}
	return p
}

// codeReason makes an attempt one that ends with the code.
type codeReason struct {
	name string
	code int
	do   func(a *attempt)
}

func reasonsOfWrongForm() []codeReason {
	out := []codeReason{
		{"cut at -2", impl.DvForm, func(a *attempt) { a.cut.Ops = -2 }},
		{"cut at 10001", impl.DvForm, func(a *attempt) { a.cut.Ops = 10001 }},
		{"a mask of 257", impl.DvForm, func(a *attempt) { a.cut.Mask = make([]byte, 257) }},
	}
	for _, c := range wrongDevices() {
		out = append(out, codeReason{c.name, impl.DvForm, func(a *attempt) { a.wrong = c.do }})
	}
	return out
}

func reasonOfNoLog() codeReason {
	return codeReason{"no log", impl.DvLog, func(a *attempt) { a.noLog = true }}
}

// reasonsOfWriting: each comes to pass where a record is to be written, the log being full.
func reasonsOfWriting() []codeReason {
	return []codeReason{
		{"a log that can't be turned", impl.DvLog, func(a *attempt) { a.head, a.used = mostVersion, 32 }},
		{"a worn half", impl.DvFlash, func(a *attempt) { a.used, a.worn = 32, append(a.worn, 44) }},
	}
}

func reasonsOfInstall() [][]codeReason {
	return [][]codeReason{
		reasonsOfWrongForm(),
		{reasonOfNoLog()},
		{{"a trial", impl.DvTrial, func(a *attempt) { a.state = trialOf(1, 4, 2, 1, 3) }}},
		{
			{"511 bytes", impl.DvForm, func(a *attempt) { a.length = 511 }},
			{"five data", impl.DvForm, func(a *attempt) {
				a.parcel.datas = append(slices.Clone(a.parcel.datas), make([][]byte, 5-len(a.parcel.datas))...)
			}},
		},
		{
			{"510 bytes", impl.BuForm, func(a *attempt) { a.length = 510 }},
			{"no Number", impl.BuForm, func(a *attempt) { a.parcel.bundle.Number = 0 }},
		},
		{
			{"a Revoked key", impl.BuKey, func(a *attempt) { a.key = 6 }},
			{"a root key", impl.BuKey, func(a *attempt) { a.key = 7 }},
			{"no key", impl.BuKey, func(a *attempt) { a.key = 200 }},
		},
		{{"another seed", impl.BuSign, func(a *attempt) { a.seed = anySeed(99) }}},
		{{"another device", impl.BuDevice, func(a *attempt) { a.parcel.bundle.Device = 8 }}},
		{{"a need", impl.BuNeeds, func(a *attempt) { a.parcel.bundle.Needs = []impl.Need{{Of: 0, Kind: 3, To: 1000}} }}},
		{{"a Floor below", impl.BuOld, func(a *attempt) { a.parcel.bundle.Floor = 1 }}},
		{
			{"a datum too few", impl.DvData, func(a *attempt) { a.parcel.datas = a.parcel.datas[:1] }},
			{"a datum too many", impl.DvData, func(a *attempt) { a.parcel.datas = append(slices.Clone(a.parcel.datas), a.parcel.datas[0]) }},
			{"a datum that does not fit", impl.DvData, func(a *attempt) { a.parcel.datas[1][64] ^= 1 }},
		},
		{
			{"cut in the bank", impl.DvCrash, func(a *attempt) { a.cut = impl.Cut{Ops: 3, Mask: []byte{0x5a}} }},
			{"a worn bank", impl.DvFlash, func(a *attempt) { a.worn = append(a.worn, 25) }},
		},
		reasonsOfWriting(),
	}
}

func reasonsOfPowerOn() [][]codeReason {
	return [][]codeReason{
		reasonsOfWrongForm(),
		{reasonOfNoLog()},
		reasonsOfWriting(),
		{{"cut at the record", impl.DvCrash, func(a *attempt) { a.cut = impl.Cut{Ops: 0, Mask: []byte{255}} }}},
		{
			{"both banks spoilt", impl.DvRescue, func(a *attempt) { a.spoilt = []int{0, 1} }},
			{"other Numbers", impl.DvRescue, func(a *attempt) { a.state.Number, a.state.Old = 9, oneOf(a.state.Trial, 9, 0) }},
			{"a Floor above", impl.DvRescue, func(a *attempt) { a.state.Floor = 3 }},
		},
	}
}

func reasonsOfConfirm() [][]codeReason {
	return [][]codeReason{
		reasonsOfWrongForm(),
		{reasonOfNoLog()},
		{{"no trial", impl.DvNone, func(a *attempt) { a.state = bootOf(1, 4, 2) }}},
		{{"the bank spoilt", impl.DvRescue, func(a *attempt) { a.spoilt = []int{1} }}},
		reasonsOfWriting(),
		{{"cut at the record", impl.DvCrash, func(a *attempt) { a.cut = impl.Cut{Ops: 0, Mask: []byte{255}} }}},
	}
}

// attempting does the attempt, and holds it against the model.
type attempting func(t *testing.T, name string, a attempt) (impl.Device, impl.Reply)

func attemptInstall(t *testing.T, name string, a attempt) (impl.Device, impl.Reply) {
	t.Helper()
	return checkInstall(t, name, a.device(), a.signed(), a.cut)
}

func attemptPowerOn(t *testing.T, name string, a attempt) (impl.Device, impl.Reply) {
	t.Helper()
	return checkPowerOn(t, name, a.device(), a.cut)
}

func attemptConfirm(t *testing.T, name string, a attempt) (impl.Device, impl.Reply) {
	t.Helper()
	return checkConfirm(t, name, a.device(), a.cut)
}

// isOfOperations: such a code may come behind operations; all others come ahead of the first one.
func isOfOperations(code int) bool {
	return code == impl.DvFlash || code == impl.DvCrash || code == impl.DvLog || code == impl.DvRescue
}

// checkFirstReasons takes each reason alone, and with each one that the chapter names later: the first one counts.
func checkFirstReasons(t *testing.T, base func() attempt, groups [][]codeReason, do attempting) {
	t.Helper()
	if got, reply := do(t, "well", base()); reply.Code != impl.DvWell || isZero(got) {
		t.Fatalf("well: %+v", reply)
	}
	for i, group := range groups {
		later := slices.Concat(groups[i+1:]...)
		for k, first := range group {
			alone := codeReason{"nothing else", impl.DvWell, func(*attempt) {}}
			for _, other := range slices.Concat([]codeReason{alone}, group[k+1:], later) {
				if other.code == first.code && other.code == impl.DvForm && i == 0 {
					continue
				}
				a := base()
				other.do(&a)
				first.do(&a)
				name := first.name + ", " + other.name
				got, reply := do(t, name, a)
				if reply.Code != first.code || reply.Bank != 0 || reply.Number != 0 {
					t.Errorf("%s: %+v, want the code %d", name, reply, first.code)
				}
				checkRefusal(t, name, a, got, reply, i == 0)
			}
		}
	}
}

// checkRefusal: the zero value for a device or a cut that may not be, else the device, which no operation changed.
func checkRefusal(t *testing.T, name string, a attempt, got impl.Device, reply impl.Reply, form bool) {
	t.Helper()
	if form {
		if reply.Ops != 0 || !isZero(got) {
			t.Errorf("%s: %+v beside a device", name, reply)
		}
		return
	}
	if !isOfOperations(reply.Code) && reply.Ops != 0 {
		t.Errorf("%s: %+v", name, reply)
	}
	if reply.Ops == 0 && !isSameDevice(got, a.device()) {
		t.Errorf("%s: %+v: %s", name, reply, tellDifference(got, a.device()))
	}
}

func TestInstallFirstReasonCounts(t *testing.T) {
	t.Parallel()
	checkFirstReasons(t, func() attempt { return wellAttempt(bootOf(0, 3, 2)) }, reasonsOfInstall(), attemptInstall)
}

func TestPowerOnFirstReasonCounts(t *testing.T) {
	t.Parallel()
	groups := reasonsOfPowerOn()
	checkFirstReasons(t, func() attempt { return wellAttempt(trialOf(1, 4, 2, 1, 3)) }, groups, attemptPowerOn)
	// Without a Trial there is nothing to be written.
	still := slices.Concat(groups[:2], groups[4:])
	checkFirstReasons(t, func() attempt { return wellAttempt(bootOf(1, 4, 2)) }, still, attemptPowerOn)
}

func TestConfirmFirstReasonCounts(t *testing.T) {
	t.Parallel()
	checkFirstReasons(t, func() attempt { return wellAttempt(trialOf(1, 4, 2, 1, 3)) }, reasonsOfConfirm(), attemptConfirm)
}

// What Confirm asks of a bank: that it is sound, of no Number and no Floor.
func TestConfirmAsksForASoundBank(t *testing.T) {
	t.Parallel()
	p := soundParcel()
	for _, c := range soundCases(p) {
		d := trialDevice(1, 1, 12, p, p)
		c.do(&d)
		if _, ok := wantState(d); !ok {
			continue
		}
		after, reply := checkConfirm(t, c.name, d, impl.Cut{Ops: uncut})
		want := impl.Reply{Code: impl.DvRescue}
		if c.code == impl.BuWell {
			want = impl.Reply{Bank: 1, Number: 3, Ops: 1}
		}
		if reply != want || want.Ops == 0 && !isSameDevice(after, d) {
			t.Errorf("%s: %+v, want %+v", c.name, reply, want)
		}
	}
	d := laidDevice(trialOf(1, 9, 2, 1, 3), p, p, 0, 5, 9)
	after, reply := checkConfirm(t, "another Number", d, impl.Cut{Ops: uncut})
	if state, _ := impl.StateOf(after); reply != (impl.Reply{Bank: 1, Number: 9, Ops: 1}) || state != bootOf(1, 9, 2) {
		t.Errorf("another Number: %+v, the state is %+v", reply, state)
	}
}
