package tests

import (
	"fmt"
	"slices"
	"sync"
	"testing"

	"loop.example/g00412/impl"
)

// tally counts which codes came of which actions, so that a test sees whether its scripts come by all of them.
type tally struct {
	lock sync.Mutex
	seen map[[2]int]int
}

func newTally() *tally { return &tally{seen: map[[2]int]int{}} }

func (c *tally) add(script []impl.Action, replies []impl.Reply) {
	c.lock.Lock()
	defer c.lock.Unlock()
	for i, r := range replies {
		c.seen[[2]int{script[i].Kind, r.Code}]++
	}
}

func (c *tally) checkCame(t *testing.T, kind int, codes ...int) {
	t.Helper()
	for _, code := range codes {
		if c.seen[[2]int{kind, code}] == 0 {
			t.Errorf("no action of the Kind %d had the code %d: %v", kind, code, c.seen)
		}
	}
}

// wearOf is the greatest Wear by the tests' own count.
func wearOf(d impl.Device) int { return slices.Max(d.Flash.Wear) }

// checkStaysGood holds promise 12 of what an action, or a script, made of a good device.
func checkStaysGood(t *testing.T, name string, was, now impl.Device) {
	t.Helper()
	checkGood(t, name, now)
	if now.Id != was.Id || !sameAnswer(now.Keys, was.Keys) {
		t.Fatalf("%s: the device is another one", name)
	}
	before, _ := wantState(was)
	after, _ := impl.StateOf(now)
	if after.Floor < before.Floor {
		t.Fatalf("%s: the Floor was %d, is %d", name, before.Floor, after.Floor)
	}
	if after.Trial || wearOf(now) >= mostWear-30 {
		return
	}
	_, replies, ok := impl.Run(now, []impl.Action{powerOf(never())})
	if !ok || !slices.Equal(replies, []impl.Reply{{Code: impl.DvWell, Bank: after.Bank, Number: after.Number}}) {
		t.Fatalf("%s: the next PowerOn: %+v, %v, the state is %+v", name, replies, ok, after)
	}
	checkHandedOn(t, name, now, replies[0])
}

// checkScript holds the promises 12 and 14 of a script on a good device: of the whole, and behind each of its actions.
func checkScript(t *testing.T, name string, d impl.Device, script []impl.Action) []impl.Reply {
	t.Helper()
	whole, replies, ok := checkRun(t, name, d, script)
	if !ok {
		t.Fatalf("%s: it is refused:%s", name, tellActions(script))
	}
	at := d
	for i := range script {
		told := fmt.Sprintf("%s, the action %d of%s", name, i, tellActions(script[:i+1]))
		next, one, ok := impl.Run(at, script[i:i+1])
		if !ok || !slices.Equal(one, replies[i:i+1]) {
			t.Fatalf("%s: alone %+v, %v, in the whole %+v", told, one, ok, replies[i])
		}
		if !within(replies[i].Ops, 0, mostTaken) {
			t.Fatalf("%s: %+v", told, replies[i])
		}
		if i == 0 || !isSameDevice(next, at) {
			checkStaysGood(t, told, at, next)
		}
		at = next
	}
	if !isSameDevice(at, whole) {
		t.Fatalf("%s: action by action: %s", name, tellDifference(at, whole))
	}
	checkStaysGood(t, name, d, whole)
	return replies
}

// checkParts holds the second half of promise 14 at one place of a script.
func checkParts(t *testing.T, name string, d impl.Device, script []impl.Action, place int) {
	t.Helper()
	whole, replies, _ := wantRun(d, script)
	first, one, ok := impl.Run(d, script[:place])
	second, two, okToo := impl.Run(first, script[place:])
	if !ok || !okToo || !slices.Equal(slices.Concat(one, two), replies) {
		t.Fatalf("%s, parted at %d: %+v and %+v, whole %+v:%s", name, place, one, two, replies, tellActions(script))
	}
	if !isSameDevice(second, whole) {
		t.Fatalf("%s, parted at %d: %s", name, place, tellDifference(second, whole))
	}
}

// Scripts of up to MaxScript actions of all kinds, on each of the good devices.
func TestScriptsLeaveDevicesGood(t *testing.T) {
	t.Parallel()
	seen := newTally()
	t.Run("all", func(t *testing.T) {
		for i, c := range scriptDevices() {
			t.Run(c.name, func(t *testing.T) {
				t.Parallel()
				r := anySource(uint64(1440 + i))
				for k, count := range []int{30, 1 + i, 30} {
					script := drawnScript(r, c.device, count)
					seen.add(script, checkScript(t, fmt.Sprintf("%s, script %d", c.name, k), c.device, script))
				}
			})
		}
	})
	seen.checkCame(t, doInstall, impl.DvWell, impl.DvForm, impl.BuKey, impl.BuSign, impl.BuDevice, impl.BuOld, impl.BuNeeds,
		impl.DvTrial, impl.DvData, impl.DvFlash, impl.DvLog, impl.DvCrash)
	seen.checkCame(t, doPower, impl.DvWell, impl.DvFlash, impl.DvLog, impl.DvCrash)
	seen.checkCame(t, doConfirm, impl.DvWell, impl.DvNone, impl.DvFlash, impl.DvLog, impl.DvCrash)
}

// From a device that Provision made, through many scripts one behind the other, till its flash is worn out.
func TestScriptsTillWornOut(t *testing.T) {
	t.Parallel()
	for run := range 3 {
		t.Run(fmt.Sprint(run), func(t *testing.T) {
			t.Parallel()
			r := anySource(uint64(1470 + run))
			p := drawnParcel(r, 5, run, 1+r.IntN(15), 2)
			d, _ := checkProvision(t, "first", ownArgs(p))
			d.Flash.Wear = slices.Repeat([]int{mostWear - 45}, allSectors)
			for i := range 6 {
				next, replies, ok := checkRun(t, fmt.Sprint("script ", i), d, drawnScript(r, d, mostScript))
				if !ok || len(replies) != mostScript {
					t.Fatalf("script %d: %d replies, %v", i, len(replies), ok)
				}
				checkStaysGood(t, fmt.Sprint("script ", i), d, next)
				d = next
			}
			if wearOf(d) < mostWear-30 {
				t.Errorf("the wear is %d only", wearOf(d))
			}
		})
	}
}

// eachCut makes scripts in which the power goes at each operation of an action: as many as may be, as long as they leave its operations as they were.
func eachCut(d impl.Device, a impl.Action, masks [][]byte) [][]impl.Action {
	_, all := wantAct(d, a)
	var out [][]impl.Action
	var script []impl.Action
	at := d
	for ops := range all.Ops {
		for i, mask := range masks {
			// The operations of a bank are many, and take one of the masks each.
			if ops < all.Ops-9 && i != ops%len(masks) {
				continue
			}
			one := a
			one.Cut = impl.Cut{Ops: ops, Mask: mask}
			at, _ = wantAct(at, one)
			script = append(script, one)
			if _, again := wantAct(at, a); again != all || len(script) == mostScript-1 {
				out = append(out, append(script, a))
				script, at = nil, d
			}
		}
	}
	return append(out, append(script, a))
}

func TestScriptsCutAtEachOperation(t *testing.T) {
	t.Parallel()
	for i, c := range scriptDevices() {
		if i%2 > 0 && wearOf(c.device) < mostWear-30 {
			continue
		}
		t.Run(c.name, func(t *testing.T) {
			t.Parallel()
			r := anySource(uint64(1480 + i))
			state, _ := wantState(c.device)
			p := drawnParcel(r, 8, state.Floor+i%2, 1+r.IntN(15), 1)
			for _, a := range []impl.Action{installOf(p, never()), powerOf(never()), confirmOf(never())} {
				for k, script := range eachCut(c.device, a, cutMasks(r)) {
					checkScript(t, fmt.Sprintf("%s, the Kind %d, script %d", c.name, a.Kind, k), c.device, script)
				}
			}
		})
	}
}

// A script that is parted at each of its places, with both ends.
func TestScriptsParted(t *testing.T) {
	t.Parallel()
	for i, c := range scriptDevices() {
		t.Run(c.name, func(t *testing.T) {
			t.Parallel()
			r := anySource(uint64(1500 + i))
			count := 9
			if i%7 == 0 {
				count = mostScript
			}
			script := drawnScript(r, c.device, count)
			for place := range count + 1 {
				checkParts(t, c.name, c.device, script, place)
			}
		})
	}
}

// Parts of parts, some of them of no action.
func TestScriptsInManyParts(t *testing.T) {
	t.Parallel()
	for i, c := range scriptDevices() {
		if i%5 > 0 {
			continue
		}
		r := anySource(uint64(1530 + i))
		script := drawnScript(r, c.device, 20)
		want, wantReplies, _ := checkRun(t, c.name, c.device, script)
		at, rest := c.device, script
		var replies []impl.Reply
		for len(rest) > 0 {
			count := r.IntN(min(len(rest), 6) + 1)
			next, some, ok := impl.Run(at, rest[:count])
			if !ok || len(some) != count {
				t.Fatalf("%s: %d replies to %d actions, %v", c.name, len(some), count, ok)
			}
			at, rest, replies = next, rest[count:], append(replies, some...)
		}
		if !slices.Equal(replies, wantReplies) || !isSameDevice(at, want) {
			t.Errorf("%s: %+v, whole %+v", c.name, replies, wantReplies)
		}
	}
}

// longestParcel has the most bytes and the most data that a bundle may have.
func longestParcel(number, floor int) parcel {
	r := anySource(1404)
	p := parcelOfSizes(r, number, floor, [mostParts]int{192, 192, 192, 192}, 0)
	for i := range p.bundle.Parts {
		p.bundle.Parts[i].Version = 1000
	}
	for i := range mostNeeds {
		p.bundle.Needs = append(p.bundle.Needs, impl.Need{Of: i / 2, Kind: (i/2 + 1) % 4, From: 900 + i%2, To: 1000})
	}
	p.bundle.Needs = sortNeeds(p.bundle.Needs)
	return p.signed()
}

// The most operations that an action can take, the log being turned: far from what is promised.
func TestMostOperationsOfAnAction(t *testing.T) {
	t.Parallel()
	old, long := sizedParcel(3, 2, 5, 0, 0, 0), longestParcel(1000, 1000)
	if !wantBundleOk(long.bundle) || len(wantLacks(long.bundle)) > 0 || len(long.env)+2 <= 256 {
		t.Fatalf("an envelope of %d bytes: %+v", len(long.env), long.bundle)
	}
	for half := range 2 {
		still := laidDevice(bootOf(half, 3, 2), old, old, half, 5, 32)
		replies := checkScript(t, "Install", still, []impl.Action{installOf(long, never()), powerOf(never()), confirmOf(never())})
		// 20 erases, three sectors of each part, five of the envelope; four erases, RkSet, RkHead and the record.
		if replies[0] != (impl.Reply{Bank: 1 - half, Number: 1000, Ops: 20 + 12 + 5 + 4 + 3}) {
			t.Errorf("Install: %+v", replies[0])
		}
		for tries := range mostTries + 1 {
			trial := laidDevice(trialOf(half, 1000, 2, tries, 3), long, old, half, 5, 32)
			for _, a := range []impl.Action{powerOf(never()), confirmOf(never())} {
				// Four erases, RkSet, RkCommit, the tries, RkHead and the record.
				if replies := checkScript(t, "a trial", trial, []impl.Action{a, powerOf(never())}); replies[0].Code != impl.DvWell || replies[0].Ops != 8+tries {
					t.Errorf("a trial of %d tries, the Kind %d: %+v", tries, a.Kind, replies[0])
				}
			}
		}
	}
}

// The log is turned many times in the course of scripts: each time its half is the other one, with a head one greater.
func TestScriptsTurnTheLog(t *testing.T) {
	t.Parallel()
	old, p := sizedParcel(3, 2, 5, 0, 0, 0), sizedParcel(4, 2, 0, 0, 65, 0)
	d := laidDevice(bootOf(0, 3, 2), old, p, 1, 1, 20)
	turns := 0
	for i := range 5 {
		cut := impl.Cut{Ops: 3 * i, Mask: []byte{0x33}}
		script := slices.Repeat([]impl.Action{installOf(p, never()), powerOf(never()), powerOf(cut), confirmOf(never()), powerOf(never())}, 5)
		before, _ := wantLog(d.Flash)
		replies := checkScript(t, fmt.Sprint("script ", i), d, script)
		d, _, _ = impl.Run(d, script)
		after, _ := wantLog(d.Flash)
		if after.head < before.head || (after.head-before.head)%2 != (after.half+before.half)%2 || slices.ContainsFunc(replies, func(r impl.Reply) bool { return r.Code == impl.DvLog }) {
			t.Fatalf("script %d: the log was %+v, is %+v: %+v", i, before, after, replies)
		}
		turns += after.head - before.head
	}
	if turns < 3 {
		t.Errorf("the log was turned %d times", turns)
	}
}
