package tests

import (
	"reflect"
	"runtime"
	"slices"
	"testing"

	"loop.example/g00412/impl"
)

type runArgs struct {
	Device impl.Device
	Script []impl.Action
}

type runAnswer struct {
	Device  impl.Device
	Replies []impl.Reply
	Ok      bool
}

func callRun(a runArgs) runAnswer {
	d, replies, ok := impl.Run(a.Device, a.Script)
	return runAnswer{d, replies, ok}
}

// memoryScripts: of none, of each kind, of many, and such that may not be.
func memoryScripts() [][]impl.Action {
	_, _, p := scriptStart()
	cut := impl.Cut{Ops: 22, Mask: []byte{0x5a, 0xf0}}
	out := [][]impl.Action{
		nil, {}, {powerOf(never())}, {confirmOf(cut)}, {installOf(p, never())}, {installOf(p, cut), installOf(p, never()), confirmOf(never())},
		{installOf(parcel{}, never())}, {installOf(parcel{env: []byte{}, datas: [][]byte{nil, {}}}, never())}, {{Kind: doPower, Env: []byte{}, Datas: [][]byte{}}},
		cycle(p, 6), slices.Repeat([]impl.Action{confirmOf(cut)}, 30), slices.Repeat([]impl.Action{confirmOf(cut)}, 31),
	}
	for _, wrong := range wrongActions(p) {
		out = append(out, []impl.Action{powerOf(never()), wrong})
	}
	return out
}

func TestScriptMemory(t *testing.T) {
	t.Parallel()
	for i, d := range memoryDevices() {
		checkCall(t, "DeviceText", d, impl.DeviceText)
		for k, script := range memoryScripts() {
			if i < 3 || (i+k)%4 == 0 {
				checkCall(t, "Run", runArgs{d, script}, callRun)
			}
		}
	}
	for _, script := range memoryScripts() {
		for _, a := range script {
			checkCall(t, "ActionOk", a, impl.ActionOk)
		}
	}
	for _, r := range []impl.Reply{{}, {Code: 20}, {Code: 21}, {Bank: 1, Number: 1000, Ops: 40}} {
		checkCall(t, "ReplyText", r, impl.ReplyText)
		checkCall(t, "Handed", []impl.Reply{r, {Number: 3}, r}, impl.Handed)
	}
	for _, count := range []int{0, 1, 30, 31} {
		checkCall(t, "Handed", slices.Repeat([]impl.Reply{{Number: 9}}, count), impl.Handed)
	}
	checkCall(t, "Handed", nil, impl.Handed)
}

// One envelope, one list of data and one mask for all actions, keys whose Pubs are one list: no two lists of the answer share any memory.
func TestScriptListsThatAreOne(t *testing.T) {
	t.Parallel()
	d, _, p := scriptStart()
	for i := range d.Keys {
		d.Keys[i].Pub = d.Keys[0].Pub
	}
	mask := []byte{0x5a, 0xf0}
	torn := impl.Cut{Ops: 30, Mask: mask}
	scripts := [][]impl.Action{
		nil, {}, {powerOf(never())}, {powerOf(never()), powerOf(never())}, {installOf(parcel{}, never())}, {confirmOf(torn)},
		{installOf(p, torn), installOf(p, torn), installOf(p, never()), confirmOf(never())},
	}
	answers := []any{d.Flash, d.Keys[0], p.env, p.datas, mask}
	for _, script := range scripts {
		answers = append(answers, callRun(runArgs{d, script}), impl.DeviceText(d))
	}
	var spans []span
	for _, one := range answers {
		spans = append(spans, spansOf(reflect.ValueOf(one))...)
	}
	if anyShared(spans) {
		t.Error("lists of arguments and answers share memory")
	}
	runtime.KeepAlive(answers)
}

// What was answered once may be spoilt: what is answered next is as it was.
func TestScriptsAreNotKept(t *testing.T) {
	t.Parallel()
	d, _, p := scriptStart()
	for range 3 {
		got, replies, _ := checkRun(t, "again", d, cycle(p, 4))
		same, none, _ := checkRun(t, "again", d, nil)
		if len(none) > 0 || !isSameDevice(same, d) {
			t.Fatalf("no action: %+v", none)
		}
		texts := [][]byte{impl.ReplyText(replies[0]), []byte(checkDeviceText(t, "again", d)), impl.DeviceText(got)}
		if string(texts[0]) != wantReplyText(replies[0]) {
			t.Fatalf("ReplyText %q", texts[0])
		}
		handed := impl.Handed(replies)
		if !slices.Equal(handed, wantHanded(replies)) {
			t.Fatalf("Handed %v", handed)
		}
		for _, l := range append(texts, got.Flash.Bytes, got.Keys[0].Pub, same.Flash.Bytes, same.Keys[0].Pub) {
			spoil(l)
		}
		spoil(handed)
		spoil(got.Flash.Wear)
		clear(replies)
	}
}

// A script's own room behind its length is neither read nor done.
func TestScriptBehindTheLength(t *testing.T) {
	t.Parallel()
	d, _, p := scriptStart()
	whole := append(cycle(p, 30), impl.Action{Kind: -1})
	for _, count := range []int{0, 1, 5, 30} {
		if _, replies, ok := checkRun(t, "the room", d, whole[:count]); !ok || len(replies) != count {
			t.Errorf("%d of 31: %d replies, %v", count, len(replies), ok)
		}
	}
	replies := slices.Repeat([]impl.Reply{{Number: 4}}, 40)
	for _, count := range []int{0, 1, 30} {
		if got := impl.Handed(replies[:count]); len(got) != count {
			t.Errorf("%d of 40: Handed %v", count, got)
		}
	}
}
