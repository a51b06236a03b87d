package tests

import (
	"bytes"
	"fmt"
	"math"
	"slices"
	"testing"

	"loop.example/g00412/impl"
)

func TestScriptConstants(t *testing.T) {
	got := []int{impl.MaxScript, impl.ScInstall, impl.ScPower, impl.ScConfirm}
	if want := []int{30, 0, 1, 2}; !slices.Equal(got, want) {
		t.Errorf("constants %v, want %v", got, want)
	}
}

func TestActionOkNamedEdges(t *testing.T) {
	many := func(count int) []byte { return make([]byte, count) }
	datas := func(count int) [][]byte { return make([][]byte, count) }
	cut := impl.Cut{Ops: uncut}
	for _, c := range []struct {
		name string
		a    impl.Action
		want bool
	}{
		{"the zero value", impl.Action{}, true},
		{"Install of nothing", impl.Action{Kind: 0, Cut: cut}, true},
		{"PowerOn", impl.Action{Kind: 1, Cut: cut}, true},
		{"Confirm", impl.Action{Kind: 2, Cut: cut}, true},
		{"the Kind -1", impl.Action{Kind: -1, Cut: cut}, false},
		{"the Kind 3", impl.Action{Kind: 3, Cut: cut}, false},
		{"the Kind 4", impl.Action{Kind: 4, Cut: cut}, false},
		{"the least Kind", impl.Action{Kind: math.MinInt, Cut: cut}, false},
		{"the greatest Kind", impl.Action{Kind: math.MaxInt, Cut: cut}, false},
		{"a Kind past 32 bits", impl.Action{Kind: 1 << 32, Cut: cut}, false},
		{"an envelope of 510 bytes", impl.Action{Env: many(510), Cut: cut}, true},
		{"an envelope of 511 bytes", impl.Action{Env: many(511), Cut: cut}, true},
		{"an envelope of 1999 bytes", impl.Action{Env: many(1999), Cut: cut}, true},
		{"an envelope of 2000 bytes", impl.Action{Env: many(2000), Cut: cut}, true},
		{"an envelope of 2001 bytes", impl.Action{Env: many(2001), Cut: cut}, false},
		{"an envelope of 70000 bytes", impl.Action{Env: many(70000), Cut: cut}, false},
		{"4 data", impl.Action{Datas: datas(4), Cut: cut}, true},
		{"5 data", impl.Action{Datas: datas(5), Cut: cut}, true},
		{"8 data", impl.Action{Datas: datas(8), Cut: cut}, true},
		{"9 data", impl.Action{Datas: datas(9), Cut: cut}, false},
		{"one long datum", impl.Action{Datas: [][]byte{many(70000)}, Cut: cut}, true},
		{"the most of both", impl.Action{Env: many(2000), Datas: datas(8), Cut: cut}, true},
		{"PowerOn with an envelope", impl.Action{Kind: 1, Env: many(1), Cut: cut}, false},
		{"PowerOn with data", impl.Action{Kind: 1, Datas: [][]byte{many(1)}, Cut: cut}, false},
		{"PowerOn with an empty datum", impl.Action{Kind: 1, Datas: datas(1), Cut: cut}, false},
		{"PowerOn with empty lists", impl.Action{Kind: 1, Env: []byte{}, Datas: [][]byte{}, Cut: cut}, true},
		{"Confirm with an envelope", impl.Action{Kind: 2, Env: many(1), Cut: cut}, false},
		{"Confirm with data", impl.Action{Kind: 2, Datas: [][]byte{many(1)}, Cut: cut}, false},
		{"Confirm with an empty datum", impl.Action{Kind: 2, Datas: datas(1), Cut: cut}, false},
		{"Confirm with empty lists", impl.Action{Kind: 2, Env: []byte{}, Datas: [][]byte{}, Cut: cut}, true},
		{"cut at -2", impl.Action{Cut: impl.Cut{Ops: -2}}, false},
		{"cut at 10000", impl.Action{Kind: 1, Cut: impl.Cut{Ops: 10000}}, true},
		{"cut at 10001", impl.Action{Kind: 2, Cut: impl.Cut{Ops: 10001}}, false},
		{"a mask of 256", impl.Action{Kind: 2, Cut: impl.Cut{Mask: many(256)}}, true},
		{"a mask of 257", impl.Action{Kind: 1, Cut: impl.Cut{Mask: many(257)}}, false},
	} {
		if got := impl.ActionOk(c.a); got != c.want || wantActionOk(c.a) != c.want {
			t.Errorf("%s: ActionOk %v, want %v", c.name, got, c.want)
		}
	}
}

func TestActionOkOfMany(t *testing.T) {
	seen := map[bool]int{}
	for _, kind := range []int{math.MinInt, -3, -2, -1, 0, 1, 2, 3, 4, 256, math.MaxInt} {
		for _, ops := range []int{math.MinInt, -2, -1, 0, 10000, 10001, math.MaxInt} {
			for _, mask := range []int{0, 1, 256, 257} {
				for _, env := range []int{0, 1, 65, 2000, 2001, 4000} {
					for _, count := range []int{0, 1, 4, 7, 8, 9, 16, 100} {
						a := impl.Action{Kind: kind, Env: make([]byte, env), Datas: make([][]byte, count), Cut: impl.Cut{Ops: ops, Mask: make([]byte, mask)}}
						got := impl.ActionOk(a)
						if got != wantActionOk(a) {
							t.Fatalf("the Kind %d, %d bytes, %d data, cut at %d by %d bytes: ActionOk %v", kind, env, count, ops, mask, got)
						}
						seen[got]++
					}
				}
			}
		}
	}
	if seen[true] == 0 || seen[false] == 0 {
		t.Errorf("the answers that came are %v", seen)
	}
}

// wrongActions are not ActionOk, each for a reason of its own.
func wrongActions(p parcel) []impl.Action {
	return []impl.Action{
		{Kind: -1, Cut: never()},
		{Kind: 3, Cut: never()},
		installOf(p, impl.Cut{Ops: -2}),
		powerOf(impl.Cut{Ops: 10001}),
		confirmOf(impl.Cut{Ops: uncut, Mask: make([]byte, 257)}),
		{Env: make([]byte, 2001), Datas: p.datas, Cut: never()},
		{Env: p.env, Datas: make([][]byte, 9), Cut: never()},
		{Kind: doPower, Env: p.env, Cut: never()},
		{Kind: doPower, Datas: p.datas, Cut: never()},
		{Kind: doConfirm, Env: []byte{0}, Cut: never()},
		{Kind: doConfirm, Datas: make([][]byte, 1), Cut: never()},
	}
}

// cycle has count actions, of all kinds in turn.
func cycle(p parcel, count int) []impl.Action {
	var script []impl.Action
	for i := range count {
		script = append(script, []impl.Action{installOf(p, never()), powerOf(never()), confirmOf(never()), powerOf(never())}[i%4])
	}
	return script
}

func scriptStart() (impl.Device, parcel, parcel) {
	old, p := sizedParcel(3, 2, 5, 0, 0, 0), sizedParcel(4, 2, 0, 0, 65, 0)
	return laidDevice(bootOf(0, 3, 2), old, old, 0, 5, 9), old, p
}

func TestRunLengths(t *testing.T) {
	t.Parallel()
	d, _, p := scriptStart()
	for _, count := range []int{0, 1, 2, 4, 29, 30} {
		got, replies, ok := checkRun(t, fmt.Sprint(count, " actions"), d, cycle(p, count))
		if !ok || len(replies) != count || isZero(got) {
			t.Errorf("%d actions: %d replies, %v", count, len(replies), ok)
		}
		for i, r := range replies {
			if r.Code != impl.DvWell {
				t.Errorf("%d actions: the reply %d is %+v", count, i, r)
			}
		}
	}
	for _, count := range []int{31, 32, 60, 1000} {
		checkRefusedRun(t, fmt.Sprint(count, " actions"), d, cycle(p, count))
		// Actions that would do nothing at all count as well.
		checkRefusedRun(t, fmt.Sprint(count, " of nothing"), d, slices.Repeat([]impl.Action{powerOf(never())}, count))
	}
	for _, script := range [][]impl.Action{nil, {}} {
		if got, replies, ok := checkRun(t, "no action", d, script); !ok || len(replies) != 0 || !isSameDevice(got, d) {
			t.Errorf("no action: %+v, %v", replies, ok)
		}
	}
}

// An action that may not be, at the beginning, in the midst and at the end: none is done, nor is any told.
func TestRunWrongActions(t *testing.T) {
	t.Parallel()
	d, _, p := scriptStart()
	for i, wrong := range wrongActions(p) {
		for _, count := range []int{1, 2, 3, 30} {
			script := cycle(p, count)
			for _, place := range []int{0, 1, count / 2, count - 2, count - 1} {
				if within(place, 0, count-1) {
					one := slices.Clone(script)
					one[place] = wrong
					checkRefusedRun(t, fmt.Sprintf("the wrong action %d at %d of %d", i, place, count), d, one)
				}
			}
		}
		checkRefusedRun(t, fmt.Sprint("the wrong action ", i, " alone many times"), d, slices.Repeat([]impl.Action{wrong}, 30))
		checkRefusedRun(t, fmt.Sprint("the wrong action ", i, " behind 30"), d, append(cycle(p, 30), wrong))
	}
}

func TestRunWrongDevices(t *testing.T) {
	t.Parallel()
	for _, c := range wrongDevices() {
		d, _, p := scriptStart()
		c.do(&d)
		for _, count := range []int{0, 1, 4, 30, 31} {
			checkRefusedRun(t, fmt.Sprint(c.name, ", actions ", count), d, cycle(p, count))
		}
		checkRefusedRun(t, c.name+", a wrong action", d, wrongActions(p)[:1])
		checkRefusedRun(t, c.name+", nothing", d, nil)
	}
	checkRefusedRun(t, "the zero value", impl.Device{}, nil)
}

// A life of a device, each reply written out.
func TestRunNamed(t *testing.T) {
	t.Parallel()
	d, old, p := scriptStart()
	late := sizedParcel(9, 5, 0, 1, 0, 0)
	data := func(q parcel) parcel { q.datas = [][]byte{{1, 2}}; return q }
	// The bank's 20 erases, one sector of data for each 64 bytes, three of the envelope, one record.
	whole, lateWhole := 20+2+len(slices.Collect(slices.Chunk(p.bankBytes(), 64)))+1, 20+1+len(slices.Collect(slices.Chunk(late.bankBytes(), 64)))+1
	crash := func(ops int) impl.Reply { return impl.Reply{Code: impl.DvCrash, Ops: ops} }
	code := func(n int) impl.Reply { return impl.Reply{Code: n} }
	steps := []struct {
		a    impl.Action
		want impl.Reply
	}{
		{powerOf(impl.Cut{Ops: 0}), impl.Reply{Bank: 0, Number: 3}},
		{confirmOf(never()), code(impl.DvNone)},
		{installOf(data(p), never()), code(impl.DvData)},
		{installOf(p, impl.Cut{Ops: 0, Mask: []byte{255}}), crash(1)},
		{installOf(p, impl.Cut{Ops: 21, Mask: []byte{0x55}}), crash(22)},
		{powerOf(never()), impl.Reply{Bank: 0, Number: 3}},
		{installOf(p, impl.Cut{Ops: whole}), impl.Reply{Bank: 1, Number: 4, Ops: whole}},
		{installOf(late, never()), code(impl.DvTrial)},
		{powerOf(impl.Cut{Ops: 0, Mask: []byte{0x0f}}), crash(1)},
		{powerOf(impl.Cut{Ops: 0, Mask: []byte{255}}), crash(1)},
		{powerOf(never()), impl.Reply{Bank: 1, Number: 4, Ops: 1}},
		{confirmOf(impl.Cut{Ops: 0}), crash(1)},
		{confirmOf(impl.Cut{Ops: 1}), impl.Reply{Bank: 1, Number: 4, Ops: 1}},
		{confirmOf(never()), code(impl.DvNone)},
		{powerOf(never()), impl.Reply{Bank: 1, Number: 4}},
		{installOf(late, never()), impl.Reply{Bank: 0, Number: 9, Ops: lateWhole}},
		{powerOf(never()), impl.Reply{Bank: 0, Number: 9, Ops: 1}},
		{powerOf(never()), impl.Reply{Bank: 0, Number: 9, Ops: 1}},
		{powerOf(never()), impl.Reply{Bank: 0, Number: 9, Ops: 1}},
		{powerOf(never()), impl.Reply{Bank: 1, Number: 4, Ops: 1}},
		{powerOf(never()), impl.Reply{Bank: 1, Number: 4}},
		{installOf(late, never()), impl.Reply{Bank: 0, Number: 9, Ops: lateWhole}},
		{confirmOf(never()), impl.Reply{Bank: 0, Number: 9, Ops: 1}},
		{installOf(old, never()), code(impl.BuOld)},
		{installOf(parcel{}, never()), code(impl.BuForm)},
		{installOf(parcel{env: make([]byte, 2000), datas: make([][]byte, 8)}, never()), code(impl.DvForm)},
		{powerOf(never()), impl.Reply{Bank: 0, Number: 9}},
	}
	var script []impl.Action
	for _, s := range steps {
		script = append(script, s.a)
	}
	got, replies, ok := checkRun(t, "a life", d, script)
	if !ok || len(replies) != len(steps) {
		t.Fatalf("%d replies, %v", len(replies), ok)
	}
	for i, s := range steps {
		if replies[i] != s.want {
			t.Errorf("the reply %d is %+v, want %+v", i, replies[i], s.want)
		}
	}
	if state, _ := impl.StateOf(got); state != bootOf(0, 9, 5) {
		t.Errorf("the state is %+v", state)
	}
	if handed := impl.Handed(replies); !slices.Equal(handed, []int{3, 3, 4, 4, 4, 4, 9, 9, 9, 9, 4, 4, 9, 9, 9}) {
		t.Errorf("Handed %v", handed)
	}
}

// Run does what the three actions of the layer below do, one behind the other.
func TestRunIsItsActions(t *testing.T) {
	t.Parallel()
	for i, c := range scriptDevices() {
		t.Run(c.name, func(t *testing.T) {
			t.Parallel()
			script := drawnScript(anySource(uint64(1410+i)), c.device, 10)
			at := c.device
			var want []impl.Reply
			for _, a := range script {
				var reply impl.Reply
				switch a.Kind {
				case impl.ScInstall:
					at, reply = impl.Install(at, a.Env, a.Datas, a.Cut)
				case impl.ScPower:
					at, reply = impl.PowerOn(at, a.Cut)
				case impl.ScConfirm:
					at, reply = impl.Confirm(at, a.Cut)
				}
				want = append(want, reply)
			}
			got, replies, ok := impl.Run(c.device, script)
			if !ok || !slices.Equal(replies, want) || !isSameDevice(got, at) {
				t.Errorf("%s: %+v, %v, want %+v", tellActions(script), replies, ok, want)
			}
		})
	}
}

// A device that is not good, or has no log at all, is acted on all the same.
func TestRunOfDevicesThatAreNotGood(t *testing.T) {
	t.Parallel()
	_, _, p := scriptStart()
	none := impl.Device{Id: ownDevice, Keys: plainKeys(), Flash: flashOf(255, 0)}
	keyless := impl.Device{Id: 0, Flash: flashOf(0, mostWear)}
	for _, d := range []impl.Device{none, keyless} {
		_, replies, ok := checkRun(t, "no log", d, cycle(p, 4))
		if !ok || slices.ContainsFunc(replies, func(r impl.Reply) bool { return r != impl.Reply{Code: impl.DvLog} }) {
			t.Errorf("no log: %+v, %v", replies, ok)
		}
	}
	sound := soundParcel()
	for i, c := range soundCases(sound) {
		d := laidDevice(bootOf(1, 3, 2), sound, sound, 0, 1, 2)
		if i%2 > 0 {
			d = trialDevice(1, 1, 12, sound, sound)
		}
		c.do(&d)
		checkRun(t, c.name, d, drawnScript(anySource(uint64(i)), d, 6))
	}
}

// A flash of any bytes, with a log that has a state.
func TestRunOfAnyFlash(t *testing.T) {
	t.Parallel()
	r := anySource(1401)
	p := sizedParcel(6, 2, 10, 0, 65, 0)
	for i := range 40 {
		d := impl.Device{Id: ownDevice, Keys: plainKeys(), Flash: drawnFlash(r, mostWear)}
		layBank(d.Flash, i%2, p)
		layRecords(d.Flash, i/2%2, drawnHistory(r, 2+r.IntN(31))...)
		checkRun(t, "any flash", d, drawnScript(r, d, 5))
	}
}

// A panic at any of these ends the test.
func TestScriptsOfAnyArgument(t *testing.T) {
	t.Parallel()
	r := anySource(1402)
	numbers := []int{math.MinInt, -1, 0, 1, 2, 3, 30, 1000, math.MaxInt}
	good, _, p := scriptStart()
	devices := []impl.Device{good, {}, {Id: ownDevice}, {Id: ownDevice, Flash: impl.Flash{Bytes: make([]byte, wholeSize)}}, {Id: ownDevice, Flash: flashOf(0, 0)}}
	lists := [][]byte{nil, {}, p.env, drawnBytes(r, 510), make([]byte, 2001), make([]byte, 1<<16)}
	datas := [][][]byte{nil, {}, {nil}, {nil, {}}, p.datas, make([][]byte, 9), {make([]byte, 1<<16)}}
	for i := range 400 {
		var script []impl.Action
		for range r.IntN(5) {
			cut := impl.Cut{Ops: numbers[r.IntN(len(numbers))], Mask: [][]byte{nil, {}, {255}, make([]byte, 257)}[r.IntN(4)]}
			script = append(script, impl.Action{Kind: numbers[r.IntN(len(numbers))], Env: lists[r.IntN(len(lists))], Datas: datas[r.IntN(len(datas))], Cut: cut})
		}
		for _, a := range script {
			if impl.ActionOk(a) != wantActionOk(a) {
				t.Fatalf("ActionOk of the Kind %d", a.Kind)
			}
		}
		checkRun(t, "any", devices[i%len(devices)], script)
		fitting := slices.DeleteFunc(script, func(a impl.Action) bool { return !wantActionOk(a) })
		checkRun(t, "any that may be", devices[i%len(devices)], fitting)
	}
	_, replies, ok := checkRun(t, "long data", good, []impl.Action{installOf(parcel{env: p.env, datas: [][]byte{bytes.Repeat([]byte{1}, 70000)}}, never()), powerOf(never())})
	if !ok || !slices.Equal(replies, []impl.Reply{{Code: impl.DvData}, {Bank: 0, Number: 3}}) {
		t.Errorf("long data: %+v, %v", replies, ok)
	}
}
