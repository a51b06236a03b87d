package tests

import (
	"fmt"
	"math"
	"slices"
	"testing"

	"loop.example/g00412/impl"
)

func wantReplyText(r impl.Reply) string {
	switch {
	case !within(r.Code, 0, 20) || !within(r.Bank, 0, 1) || !within(r.Number, 0, mostVersion) || !within(r.Ops, 0, mostTold):
		return ""
	case r.Code == 0:
		return fmt.Sprintln("well", r.Bank, r.Number, r.Ops)
	}
	return fmt.Sprintln("code", r.Code, r.Ops)
}

func wantBankText(d impl.Device, bank int) string {
	p, code := wantBank(d, bank)
	if code == impl.BuWell {
		return fmt.Sprintln("has", bank, p.bundle.Number, p.bundle.Floor)
	}
	return fmt.Sprintln("lacks", bank, code)
}

func wantDeviceText(d impl.Device) string {
	if !wantDeviceOk(d) {
		return ""
	}
	state, ok := wantState(d)
	text := "no log\n"
	if ok {
		text = wantBootText(state)
	}
	return text + wantBankText(d, 0) + wantBankText(d, 1)
}

func checkDeviceText(t *testing.T, name string, d impl.Device) string {
	t.Helper()
	got := string(impl.DeviceText(d))
	if want := wantDeviceText(d); got != want {
		t.Errorf("%s: DeviceText %q, want %q", name, got, want)
	}
	return got
}

func TestReplyTextNamed(t *testing.T) {
	for _, c := range []struct {
		r    impl.Reply
		want string
	}{
		{impl.Reply{}, "well 0 0 0\n"},
		{impl.Reply{Code: 0, Bank: 1, Number: 7, Ops: 31}, "well 1 7 31\n"},
		{impl.Reply{Code: 0, Bank: 1, Number: 1000, Ops: 100000}, "well 1 1000 100000\n"},
		{impl.Reply{Code: 20, Ops: 5}, "code 20 5\n"},
		{impl.Reply{Code: 9}, "code 9 0\n"},
		{impl.Reply{Code: 1, Bank: 1, Number: 1000, Ops: 100000}, "code 1 100000\n"},
		// Numbers that no reply has, but that are in 0 .. DvCrash.
		{impl.Reply{Code: 7, Ops: 1}, "code 7 1\n"},
		{impl.Reply{Code: 14, Ops: 1}, "code 14 1\n"},
		{impl.Reply{Code: 19, Ops: 1}, "code 19 1\n"},
		{impl.Reply{Code: -1}, ""},
		{impl.Reply{Code: 21}, ""},
		{impl.Reply{Bank: -1}, ""},
		{impl.Reply{Bank: 2}, ""},
		{impl.Reply{Number: -1}, ""},
		{impl.Reply{Number: 1001}, ""},
		{impl.Reply{Ops: -1}, ""},
		{impl.Reply{Ops: 100001}, ""},
		// Bank and Number are asked for, though a code's line does not tell them.
		{impl.Reply{Code: 5, Bank: -1}, ""},
		{impl.Reply{Code: 5, Bank: 2}, ""},
		{impl.Reply{Code: 5, Number: -1}, ""},
		{impl.Reply{Code: 5, Number: 1001}, ""},
	} {
		if got := string(impl.ReplyText(c.r)); got != c.want || wantReplyText(c.r) != c.want {
			t.Errorf("%+v: ReplyText %q, want %q", c.r, got, c.want)
		}
	}
}

func TestReplyTextOfMany(t *testing.T) {
	codes := []int{math.MinInt, 1 << 32, math.MaxInt}
	for code := -1; code <= 21; code++ {
		codes = append(codes, code)
	}
	seen := map[bool]int{}
	for _, code := range codes {
		for _, bank := range []int{math.MinInt, -1, 0, 1, 2, 1 << 32, math.MaxInt} {
			for _, number := range []int{math.MinInt, -1, 0, 1, 9, 10, 255, 999, 1000, 1001, math.MaxInt} {
				for _, ops := range []int{math.MinInt, -1, 0, 1, 60, 10001, 99999, 100000, 100001, math.MaxInt} {
					r := impl.Reply{Code: code, Bank: bank, Number: number, Ops: ops}
					got := string(impl.ReplyText(r))
					if got != wantReplyText(r) {
						t.Fatalf("%+v: ReplyText %q, want %q", r, got, wantReplyText(r))
					}
					seen[got == ""]++
				}
			}
		}
	}
	if seen[true] == 0 || seen[false] != 21*2*7*6 {
		t.Errorf("the texts that came, empty and not: %v", seen)
	}
}

// What actions answer can always be told.
func TestReplyTextOfReplies(t *testing.T) {
	t.Parallel()
	for i, c := range scriptDevices() {
		d := c.device
		_, replies, _ := impl.Run(d, drawnScript(anySource(uint64(1420+i)), d, 5))
		for _, r := range replies {
			if got := string(impl.ReplyText(r)); got != wantReplyText(r) || got == "" {
				t.Errorf("%s: %+v: ReplyText %q", c.name, r, got)
			}
		}
	}
}

func TestDeviceTextNamed(t *testing.T) {
	t.Parallel()
	old, p := sizedParcel(3, 2, 5, 0, 0, 0), sizedParcel(1000, 999, 0, 0, 65, 0)
	spoilt := func(d impl.Device, places ...int) impl.Device {
		for _, at := range places {
			d.Flash.Bytes[at] ^= 1
		}
		return d
	}
	blank := func() impl.Device { return impl.Device{Id: ownDevice, Keys: plainKeys(), Flash: flashOf(255, 0)} }
	provisioned, _ := impl.Provision(ownDevice, plainKeys(), old.env, old.datas)
	noLog := laidDevice(bootOf(0, 3, 2), old, p, 0, 5, 9)
	layRecords(noLog.Flash, 0)
	keyless := laidDevice(bootOf(1, 4, 2), old, p, 1, 5, 9)
	keyless.Keys = nil
	firstData, secondData := partStart(0, 0), partStart(1, 2)
	for _, c := range []struct {
		name string
		d    impl.Device
		want string
	}{
		{"provisioned", provisioned, "bank 0 3 2\nhas 0 3 2\nlacks 1 1\n"},
		{"both sound", laidDevice(bootOf(0, 3, 2), old, p, 0, 5, 9), "bank 0 3 2\nhas 0 3 2\nhas 1 1000 999\n"},
		{"a trial", laidDevice(trialOf(1, 1000, 2, 2, 3), p, old, 0, 5, 9), "bank 1 1000 2\ntrial 2 3\nhas 0 3 2\nhas 1 1000 999\n"},
		{"the first bank spoilt", spoilt(laidDevice(trialOf(1, 1000, 2, 0, 3), p, old, 1, 5, 9), firstData), "bank 1 1000 2\ntrial 0 3\nlacks 0 9\nhas 1 1000 999\n"},
		{"both spoilt", spoilt(laidDevice(bootOf(0, 3, 2), old, p, 0, 5, 9), firstData, secondData), "bank 0 3 2\nlacks 0 9\nlacks 1 9\n"},
		{"no log", noLog, "no log\nhas 0 3 2\nhas 1 1000 999\n"},
		{"nothing at all", blank(), "no log\nlacks 0 1\nlacks 1 1\n"},
		{"no key", keyless, "bank 1 4 2\nlacks 0 2\nlacks 1 2\n"},
		{"a state of other Numbers", laidDevice(bootOf(0, 77, 500), old, p, 0, 5, 9), "bank 0 77 500\nhas 0 3 2\nhas 1 1000 999\n"},
		{"the zero value", impl.Device{}, ""},
	} {
		if got := checkDeviceText(t, c.name, c.d); got != c.want {
			t.Errorf("%s: DeviceText %q, want %q", c.name, got, c.want)
		}
	}
}

// banksSwapped has the bank 0 where the bank 1 was, and the other way round.
func banksSwapped(d impl.Device) impl.Device {
	out := copyDevice(d)
	copy(out.Flash.Bytes, d.Flash.Bytes[bankSize:2*bankSize])
	copy(out.Flash.Bytes[bankSize:], d.Flash.Bytes[:bankSize])
	return out
}

// Each code that a bank may have, in either bank and in both, beside each kind of state.
func TestDeviceTextOfCodes(t *testing.T) {
	t.Parallel()
	p := soundParcel()
	seen := map[int]int{}
	states := []impl.Boot{bootOf(0, 3, 2), bootOf(1, 1000, 1000), trialOf(0, 3, 0, 0, 1), trialOf(1, 3, 2, 3, 1000)}
	for _, c := range soundCases(p) {
		for i, state := range states {
			d := laidDevice(state, p, p, i%2, 1+i, 9)
			if i == 0 {
				layRecords(d.Flash, 0)
			}
			c.do(&d)
			checkDeviceText(t, c.name, d)
			checkDeviceText(t, c.name+", swapped", banksSwapped(d))
			both := copyDevice(d)
			copy(both.Flash.Bytes, d.Flash.Bytes[bankSize:2*bankSize])
			checkDeviceText(t, c.name+", twice", both)
			_, code := wantBank(d, 1)
			seen[code]++
		}
	}
	for _, code := range []int{impl.BuWell, impl.BuForm, impl.BuKey, impl.BuSign, impl.BuDevice, impl.BuNeeds, impl.DvData} {
		if seen[code] == 0 {
			t.Errorf("no bank had the code %d", code)
		}
	}
}

func TestDeviceTextOfWrongDevices(t *testing.T) {
	t.Parallel()
	p := soundParcel()
	for _, c := range wrongDevices() {
		d := laidDevice(bootOf(1, 3, 2), p, p, 0, 1, 2)
		c.do(&d)
		if got := checkDeviceText(t, c.name, d); got != "" {
			t.Errorf("%s: DeviceText %q", c.name, got)
		}
	}
}

// Behind all kinds of scripts the text is that of what stands in the device.
func TestDeviceTextBehindScripts(t *testing.T) {
	t.Parallel()
	for i, c := range scriptDevices() {
		checkDeviceText(t, c.name, c.device)
		got, _, _ := impl.Run(c.device, drawnScript(anySource(uint64(1430+i)), c.device, 4))
		checkDeviceText(t, c.name+", behind a script", got)
	}
}

func wantHanded(l []impl.Reply) []int {
	if len(l) > mostScript {
		return nil
	}
	var out []int
	for _, r := range l {
		if r.Code == 0 {
			out = append(out, r.Number)
		}
	}
	return out
}

func TestHandedNamed(t *testing.T) {
	well := func(number int) impl.Reply { return impl.Reply{Number: number} }
	coded := func(code int) impl.Reply { return impl.Reply{Code: code, Number: 5} }
	for _, c := range []struct {
		name string
		l    []impl.Reply
		want []int
	}{
		{"nil", nil, nil},
		{"none", []impl.Reply{}, nil},
		{"one", []impl.Reply{well(3)}, []int{3}},
		{"one that is not well", []impl.Reply{coded(20)}, nil},
		{"in order", []impl.Reply{well(3), coded(9), well(1), well(3), coded(1), well(2)}, []int{3, 1, 3, 2}},
		{"codes beside the well one", []impl.Reply{coded(-1), well(4), coded(1), coded(math.MaxInt), coded(math.MinInt)}, []int{4}},
		// Whatever the Number, the Bank and the Ops are.
		{"any Numbers", []impl.Reply{well(0), well(-1), well(1001), well(math.MinInt), well(math.MaxInt)}, []int{0, -1, 1001, math.MinInt, math.MaxInt}},
		{"any Banks and Ops", []impl.Reply{{Bank: 1, Number: 6, Ops: 40}, {Bank: -1, Number: 7, Ops: -1}, {Bank: 2, Number: 8, Ops: mostTold + 1}}, []int{6, 7, 8}},
	} {
		if got := impl.Handed(c.l); !slices.Equal(got, c.want) {
			t.Errorf("%s: Handed %v, want %v", c.name, got, c.want)
		}
	}
}

func TestHandedLengths(t *testing.T) {
	r := anySource(1403)
	for count := range 64 {
		l := make([]impl.Reply, count)
		for i := range l {
			l[i] = impl.Reply{Code: max(0, r.IntN(30)-9), Bank: r.IntN(2), Number: 1 + i, Ops: i}
		}
		if got := impl.Handed(l); !slices.Equal(got, wantHanded(l)) {
			t.Errorf("%d replies: Handed %v, want %v", count, got, wantHanded(l))
		}
	}
	for _, c := range [][2]int{{29, 29}, {30, 30}, {31, 0}, {1000, 0}} {
		if got := impl.Handed(slices.Repeat([]impl.Reply{{Number: 4}}, c[0])); !slices.Equal(got, slices.Repeat([]int{4}, c[1])) {
			t.Errorf("%d replies: Handed %v", c[0], got)
		}
	}
}
