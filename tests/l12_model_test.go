package tests

import (
	"fmt"
	"math/rand/v2"
	"slices"
	"testing"

	"loop.example/g00412/impl"
)

// The limits as the chapter tells them, in numbers of their own.
const (
	mostScript = 30
	mostDatas  = 8
	mostEnvIn  = 2000
	mostTold   = 100000
	mostTaken  = 60

	doInstall = 0
	doPower   = 1
	doConfirm = 2
)

func installOf(p parcel, cut impl.Cut) impl.Action {
	return impl.Action{Kind: doInstall, Env: p.env, Datas: p.datas, Cut: cut}
}

func powerOf(cut impl.Cut) impl.Action   { return impl.Action{Kind: doPower, Cut: cut} }
func confirmOf(cut impl.Cut) impl.Action { return impl.Action{Kind: doConfirm, Cut: cut} }

func never() impl.Cut { return impl.Cut{Ops: uncut} }

func wantActionOk(a impl.Action) bool {
	switch a.Kind {
	case doInstall:
		return wantCutOk(a.Cut) && len(a.Env) <= mostEnvIn && len(a.Datas) <= mostDatas
	case doPower, doConfirm:
		return wantCutOk(a.Cut) && len(a.Env)+len(a.Datas) == 0
	}
	return false
}

func wantAct(d impl.Device, a impl.Action) (impl.Device, impl.Reply) {
	switch a.Kind {
	case doInstall:
		return wantInstall(d, a.Env, a.Datas, a.Cut)
	case doPower:
		return wantPowerOn(d, a.Cut)
	}
	return wantConfirm(d, a.Cut)
}

func wantRun(d impl.Device, script []impl.Action) (impl.Device, []impl.Reply, bool) {
	wrong := slices.IndexFunc(script, func(a impl.Action) bool { return !wantActionOk(a) })
	if !wantDeviceOk(d) || len(script) > mostScript || wrong >= 0 {
		return impl.Device{}, nil, false
	}
	replies := make([]impl.Reply, len(script))
	for i, a := range script {
		d, replies[i] = wantAct(d, a)
	}
	return d, replies, true
}

// checkRun holds Run against the model.
func checkRun(t *testing.T, name string, d impl.Device, script []impl.Action) (impl.Device, []impl.Reply, bool) {
	t.Helper()
	got, replies, ok := impl.Run(d, script)
	want, wantReplies, wantOk := wantRun(d, script)
	if ok != wantOk || !slices.Equal(replies, wantReplies) {
		t.Fatalf("%s: Run = %+v, %v, want %+v, %v", name, replies, ok, wantReplies, wantOk)
	}
	if !isSameDevice(got, want) {
		t.Fatalf("%s: Run: %s", name, tellDifference(got, want))
	}
	return got, replies, ok
}

// checkRefusedRun wants nothing beside the false.
func checkRefusedRun(t *testing.T, name string, d impl.Device, script []impl.Action) {
	t.Helper()
	if got, replies, ok := checkRun(t, name, d, script); ok || len(replies) > 0 || !isZero(got) {
		t.Errorf("%s: Run = %+v, %v, and a device %v", name, replies, ok, !isZero(got))
	}
}

// scriptDevices are good ones: without a Trial, with one, with a log that can't be turned, and worn.
func scriptDevices() []deviceCase {
	r := anySource(1400)
	out := goodDevices()
	old, tried := drawnParcel(r, 3, 2, 5, 2), drawnParcel(r, 9, 5, 14, 3)
	for tries := range mostTries + 1 {
		state := trialOf(tries%2, 9, 2, tries, 3)
		out = append(out,
			deviceCase{fmt.Sprintf("a trial of %d tries", tries), laidDevice(state, tried, old, tries%2, 7, 11+tries)},
			deviceCase{fmt.Sprintf("a full half and %d tries", tries), laidDevice(state, tried, old, tries/2, 254+tries, 32)})
	}
	for _, wear := range []int{mostWear - 31, mostWear - 30, mostWear - 2, mostWear} {
		d := laidDevice(bootOf(1, 3, 2), old, tried, 0, 4, 30)
		d.Flash.Wear = slices.Repeat([]int{wear}, allSectors)
		out = append(out, deviceCase{fmt.Sprint("a wear of ", wear), d})
	}
	wornLog := laidDevice(trialOf(1, 9, 2, 1, 3), tried, old, 0, 4, 31)
	wornLog.Flash.Wear[45] = mostWear
	lateWorn := laidDevice(bootOf(0, 3, 2), old, tried, 0, 4, 32)
	lateWorn.Flash.Wear[47] = mostWear
	return append(out,
		deviceCase{"a trial and a worn half", wornLog},
		deviceCase{"a worn half", lateWorn},
		deviceCase{"a log that can't be turned", laidDevice(bootOf(1, 3, 2), old, tried, 1, mostVersion, 32)},
		deviceCase{"a trial, and a log that can't be turned", laidDevice(trialOf(1, 9, 2, 1, 3), tried, old, 0, mostVersion, 32)})
}

// drawnOffer is let in three times out of four, if its Floor may be.
func drawnOffer(r *rand.Rand, floor int) parcel {
	higher := min(floor+r.IntN(2)*r.IntN(3), mostVersion)
	if r.IntN(4) > 0 {
		return drawnParcel(r, 1+r.IntN(mostVersion), higher, 1+r.IntN(15), r.IntN(mostNeeds+1))
	}
	refused := refusedParcels(drawnParcel(r, 1+r.IntN(mostVersion), higher, 7, 2), floor)
	return refused[r.IntN(len(refused))].p
}

// drawnKind prefers what has something to do.
func drawnKind(r *rand.Rand, trial bool) int {
	if trial {
		return []int{doInstall, doPower, doPower, doConfirm}[r.IntN(4)]
	}
	return []int{doInstall, doInstall, doInstall, doPower, doConfirm}[r.IntN(5)]
}

func nextAction(r *rand.Rand, d impl.Device) impl.Action {
	state, _ := wantState(d)
	a := impl.Action{Kind: drawnKind(r, state.Trial), Cut: never()}
	if a.Kind == doInstall {
		p := drawnOffer(r, state.Floor)
		a.Env, a.Datas = p.env, p.datas
	}
	if r.IntN(2) == 0 {
		_, all := wantAct(d, a)
		masks := cutMasks(r)
		a.Cut = impl.Cut{Ops: r.IntN(all.Ops + 2), Mask: masks[r.IntN(len(masks))]}
	}
	return a
}

// drawnScript follows the device as it goes, so that each action meets what the one before left.
func drawnScript(r *rand.Rand, d impl.Device, count int) []impl.Action {
	var script []impl.Action
	for range count {
		a := nextAction(r, d)
		d, _ = wantAct(d, a)
		script = append(script, a)
	}
	return script
}

func tellActions(script []impl.Action) string {
	var text string
	for _, a := range script {
		text += fmt.Sprintf(" %s(%d bytes, %d data, %s)", []string{"Install", "PowerOn", "Confirm"}[a.Kind], len(a.Env), len(a.Datas), tellCut(a.Cut))
	}
	return text
}

func TestScriptDevicesAreGood(t *testing.T) {
	t.Parallel()
	for _, c := range scriptDevices() {
		checkGood(t, c.name, c.device)
	}
}
