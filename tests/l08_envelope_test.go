package tests

import (
	"bytes"
	"fmt"
	"math"
	"slices"
	"testing"

	"loop.example/g00412/impl"
)

const (
	mostKeys  = 8
	mostKeyId = 255
	keyAt     = 64
	bundleAt  = 65
)

func pubOf(i int) []byte {
	pub, _ := libSigned(anySeed(i), nil)
	return pub
}

// bundleKey has the seed anySeed(id).
func bundleKey(id int) impl.Key {
	return impl.Key{Id: id, Role: impl.KeyBundle, Pub: pubOf(id)}
}

// plainKeys: 4, 5 and 255 may sign, the last two with the seed of 4, too; 6 is Revoked, 7 has KeyRoot.
func plainKeys() []impl.Key {
	keys := []impl.Key{bundleKey(4), bundleKey(5), bundleKey(6), bundleKey(7), bundleKey(mostKeyId)}
	keys[1].Pub, keys[4].Pub = pubOf(4), pubOf(4)
	keys[2].Revoked = true
	keys[3].Role = impl.KeyRoot
	return keys
}

func wantKeysOk(l []impl.Key) bool {
	fine := len(l) <= mostKeys
	for i, k := range l {
		fine = fine && within(k.Id, 0, mostKeyId) && (i == 0 || l[i-1].Id < k.Id) && (k.Role == 1 || k.Role == 2) && len(k.Pub) == 32
	}
	return fine
}

func wantKeyFor(l []impl.Key, id int) ([]byte, bool) {
	at := slices.IndexFunc(l, func(k impl.Key) bool { return k.Id == id })
	if !wantKeysOk(l) || at < 0 || l[at].Role != 2 || l[at].Revoked {
		return nil, false
	}
	return l[at].Pub, true
}

// wantEnvelope is made by the library; body need be no bundle's.
func wantEnvelope(body []byte, key int, seed []byte) []byte {
	signed := append([]byte{byte(key)}, body...)
	_, sig := libSigned(seed, signed)
	return append(sig, signed...)
}

func wantCode(env []byte, keys []impl.Key, device, floor int) int {
	if !wantKeysOk(keys) || !within(len(env), bundleAt, impl.MaxMsg) {
		return impl.BuForm
	}
	b, ok := wantRead(env[bundleAt:])
	if !ok {
		return impl.BuForm
	}
	pub, ok := wantKeyFor(keys, int(env[keyAt]))
	if !ok {
		return impl.BuKey
	}
	if !wantVerify(pub, env[keyAt:], env[:keyAt]) {
		return impl.BuSign
	}
	if b.Device != device {
		return impl.BuDevice
	}
	if len(wantLacks(b)) > 0 {
		return impl.BuNeeds
	}
	if b.Floor < floor {
		return impl.BuOld
	}
	return impl.BuWell
}

// checkOpened: what is let in is the very bundle, beside all other codes is none.
func checkOpened(t *testing.T, name string, env []byte, keys []impl.Key, device, floor, code int) {
	t.Helper()
	got, gotCode := impl.Opened(env, keys, device, floor)
	if gotCode != code {
		t.Fatalf("%s: Opened(%x, %+v, %d, %d): the code %d, want %d", name, env, keys, device, floor, gotCode, code)
	}
	var want impl.Bundle
	if code == impl.BuWell {
		want, _ = wantRead(env[bundleAt:])
	}
	if !sameAnswer(got, want) {
		t.Fatalf("%s: Opened: %+v beside the code %d", name, got, code)
	}
}

func checkKeys(t *testing.T, name string, l []impl.Key) {
	t.Helper()
	if got := impl.KeysOk(l); got != wantKeysOk(l) {
		t.Errorf("%s: KeysOk = %v", name, got)
	}
	ids := []int{math.MinInt, -256, -1, 0, 1, 127, 128, 254, 255, 256, 257, 511, math.MaxInt}
	for _, k := range l {
		ids = append(ids, k.Id, k.Id+1, k.Id-1, k.Id+256)
	}
	for _, id := range ids {
		got, ok := impl.KeyFor(l, id)
		want, wantOk := wantKeyFor(l, id)
		if ok != wantOk || !bytes.Equal(got, want) {
			t.Errorf("%s: KeyFor %d = %x, %v, want %x, %v", name, id, got, ok, want, wantOk)
		}
	}
}

func keysOf(ids ...int) []impl.Key {
	var out []impl.Key
	for _, id := range ids {
		out = append(out, impl.Key{Id: id, Role: impl.KeyBundle, Pub: patternBytes(32 + len(out))[len(out):]})
	}
	return out
}

func TestKeysOkIds(t *testing.T) {
	for _, e := range []struct {
		ids []int
		ok  bool
	}{
		{nil, true}, {[]int{0}, true}, {[]int{255}, true}, {[]int{256}, false}, {[]int{-1}, false}, {[]int{math.MinInt}, false}, {[]int{math.MaxInt}, false},
		{[]int{0, 255}, true}, {[]int{255, 0}, false}, {[]int{3, 3}, false}, {[]int{0, 0}, false}, {[]int{255, 255}, false}, {[]int{255, 256}, false}, {[]int{-1, 0}, false},
		{[]int{0, 1, 2, 3, 4, 5, 6, 7}, true}, {[]int{0, 1, 2, 3, 4, 5, 6, 7, 8}, false}, {[]int{248, 249, 250, 251, 252, 253, 254, 255}, true},
		{[]int{0, 2, 1}, false}, {[]int{0, 1, 2, 3, 4, 5, 7, 6}, false}, {[]int{0, 1, 2, 3, 4, 5, 6, 6}, false}, {[]int{1, 0, 2, 3, 4, 5, 6, 7}, false},
		{make([]int, 5000), false},
	} {
		keys := keysOf(e.ids...)
		if impl.KeysOk(keys) != e.ok {
			t.Errorf("KeysOk of the Ids %v = %v", e.ids, !e.ok)
		}
		checkKeys(t, fmt.Sprint(len(e.ids), " Ids"), keys)
	}
	if !impl.KeysOk([]impl.Key{}) {
		t.Error("KeysOk of an empty list")
	}
}

func TestKeysOkRolesAndPubs(t *testing.T) {
	for at := range mostKeys {
		for _, role := range []int{math.MinInt, -1, 0, 1, 2, 3, 4, 257, 258, math.MaxInt} {
			for _, revoked := range []bool{false, true} {
				keys := keysOf(0, 3, 9, 100, 127, 128, 200, 255)
				keys[at].Role, keys[at].Revoked = role, revoked
				if impl.KeysOk(keys) != (role == impl.KeyRoot || role == impl.KeyBundle) {
					t.Errorf("KeysOk with the Role %d at %d", role, at)
				}
				checkKeys(t, fmt.Sprint("the Role ", role), keys)
			}
		}
		for _, count := range []int{0, 1, 31, 32, 33, 64} {
			keys := keysOf(0, 3, 9, 100, 127, 128, 200, 255)
			keys[at].Pub = patternBytes(count)
			if impl.KeysOk(keys) != (count == 32) {
				t.Errorf("KeysOk with a Pub of %d bytes at %d", count, at)
			}
			checkKeys(t, fmt.Sprint("a Pub of ", count), keys)
		}
	}
	checkKeys(t, "a Pub that is nil", []impl.Key{{Role: impl.KeyBundle}})
	checkKeys(t, "the zero value", []impl.Key{{}})
	checkKeys(t, "the plain ones", plainKeys())
}

func TestEnvelope(t *testing.T) {
	r := anySource(6)
	for i := range 60 {
		b := anyBundle(r, 1+i%15, i%(mostNeeds+1))
		key := []int{0, 1, 4, 127, 128, 254, 255}[i%7]
		got, ok := impl.Envelope(b, key, anySeed(i))
		if want := wantEnvelope(wantBundleBytes(b), key, anySeed(i)); !ok || !bytes.Equal(got, want) {
			t.Errorf("Envelope(%+v, %d) = %x, %v, want %x", b, key, got, ok, want)
		}
	}
}

// A bundle that lacks something has an envelope, too: it is not let in.
func TestEnvelopeOfEdges(t *testing.T) {
	for i, c := range bundleChanges() {
		b := plainBundle()
		c.do(&b)
		if c.ok && i%5 > 0 {
			continue
		}
		got, ok := impl.Envelope(b, 4, anySeed(4))
		if c.ok {
			if !ok || !bytes.Equal(got, wantEnvelope(wantBundleBytes(b), 4, anySeed(4))) {
				t.Errorf("%s: Envelope = %x, %v", c.name, got, ok)
			}
			checkOpened(t, c.name, got, plainKeys(), b.Device, b.Floor, wantCode(got, plainKeys(), b.Device, b.Floor))
		} else if !isRefused(got, ok) {
			t.Errorf("%s: Envelope = %x, %v", c.name, got, ok)
		}
	}
}

func TestEnvelopeKeysAndSeeds(t *testing.T) {
	for _, key := range []int{math.MinInt, -256, -255, -1, 0, 1, 64, 254, 255, 256, 257, 260, 511, 1 << 32, math.MaxInt} {
		for _, count := range []int{0, 31, 32, 33, 64} {
			for _, b := range []impl.Bundle{plainBundle(), {}} {
				seed := slices.Concat(anySeed(4), anySeed(5))[:count]
				got, ok := impl.Envelope(b, key, seed)
				if !within(key, 0, mostKeyId) || count != 32 || b.Number == 0 {
					if !isRefused(got, ok) {
						t.Errorf("Envelope(%+v, %d, %d bytes) = %x, %v", b, key, count, got, ok)
					}
				} else if !ok || !bytes.Equal(got, wantEnvelope(wantBundleBytes(b), key, seed)) {
					t.Errorf("Envelope(%+v, %d, %d bytes) = %x, %v", b, key, count, got, ok)
				}
			}
		}
	}
	if got, ok := impl.Envelope(plainBundle(), 0, nil); !isRefused(got, ok) {
		t.Errorf("Envelope with no seed = %x, %v", got, ok)
	}
}

// What an envelope holds is let in just as it was, where it meets its needs.
func TestOpenedWell(t *testing.T) {
	r := anySource(7)
	let := 0
	for i := range 80 {
		b := anyBundle(r, 1+i%15, i%3)
		if i%4 == 0 {
			b.Needs = nil
		}
		keys := []impl.Key{bundleKey(i), bundleKey(i + 1), bundleKey(mostKeyId)}
		env, ok := impl.Envelope(b, i, anySeed(i))
		code := impl.BuWell
		if !impl.Meets(b) {
			code = impl.BuNeeds
		}
		got, gotCode := impl.Opened(env, keys, b.Device, b.Floor)
		if !ok || gotCode != code || code == impl.BuWell && !sameAnswer(got, b) {
			t.Fatalf("%+v: Opened %+v, %d, want the code %d", b, got, gotCode, code)
		}
		checkOpened(t, "any", env, keys, b.Device, b.Floor, code)
		if code == impl.BuWell {
			let++
		}
	}
	if let < 20 || let > 70 {
		t.Errorf("%d of 80 are let in", let)
	}
}

func TestOpenedOfEdges(t *testing.T) {
	for _, id := range []int{0, 1, 127, 128, 254, mostKeyId} {
		for _, b := range []impl.Bundle{leastBundle(), plainBundle(), fullBundle()} {
			env, _ := impl.Envelope(b, id, anySeed(id))
			keys := []impl.Key{bundleKey(id)}
			for _, floor := range []int{math.MinInt, -1, 0, b.Floor - 1, b.Floor} {
				checkOpened(t, "a floor that is not above", env, keys, b.Device, floor, impl.BuWell)
			}
			for _, floor := range []int{b.Floor + 1, mostVersion + 1, math.MaxInt} {
				checkOpened(t, "a floor above", env, keys, b.Device, floor, impl.BuOld)
			}
			for _, device := range []int{math.MinInt, -1, b.Device - 1, b.Device + 1, b.Device + 256, b.Device + 1<<32, math.MaxInt} {
				checkOpened(t, "another device", env, keys, device, b.Floor, impl.BuDevice)
			}
		}
	}
}

func TestOpenedEachBitCounts(t *testing.T) {
	keys := plainKeys()
	for i, b := range []impl.Bundle{leastBundle(), plainBundle()} {
		env := wantEnvelope(wantBundleBytes(b), 4, anySeed(4))
		checkOpened(t, "not turned", env, keys, b.Device, b.Floor, impl.BuWell)
		codes := map[int]int{}
		for bit := range 8 * len(env) {
			// Of the second one only some bits of the signature, as each takes its time.
			if i == 1 && bit < 8*keyAt && bit%7 > 0 {
				continue
			}
			other := turned(env, bit)
			code := wantCode(other, keys, b.Device, b.Floor)
			if code == impl.BuWell || bit < 8*keyAt && code != impl.BuSign {
				t.Fatalf("the bit %d: the tests want the code %d", bit, code)
			}
			checkOpened(t, fmt.Sprint("the bit ", bit), other, keys, b.Device, b.Floor, code)
			codes[code]++
		}
		if codes[impl.BuForm] == 0 || codes[impl.BuKey] == 0 || codes[impl.BuSign] == 0 || len(codes) != 3 {
			t.Errorf("the codes are %v", codes)
		}
	}
}

// The number of the key is signed, too: another one with the very same Pub will not do.
func TestOpenedKeyNumberIsSigned(t *testing.T) {
	b := plainBundle()
	env := wantEnvelope(wantBundleBytes(b), 4, anySeed(4))
	for id, code := range map[int]int{4: impl.BuWell, 5: impl.BuSign, 255: impl.BuSign, 6: impl.BuKey, 7: impl.BuKey, 0: impl.BuKey, 8: impl.BuKey, 254: impl.BuKey} {
		other := slices.Clone(env)
		other[keyAt] = byte(id)
		checkOpened(t, fmt.Sprint("the key ", id), other, plainKeys(), b.Device, b.Floor, code)
	}
	for _, id := range []int{5, 255} {
		signed := wantEnvelope(wantBundleBytes(b), id, anySeed(4))
		checkOpened(t, fmt.Sprint("signed for ", id), signed, plainKeys(), b.Device, b.Floor, impl.BuWell)
	}
	// A signature of the bundle alone, without the number ahead of it.
	_, sig := libSigned(anySeed(4), env[bundleAt:])
	checkOpened(t, "the bundle alone is signed", slices.Concat(sig, env[keyAt:]), plainKeys(), b.Device, b.Floor, impl.BuSign)
}

func TestOpenedKeys(t *testing.T) {
	b := plainBundle()
	env := wantEnvelope(wantBundleBytes(b), 4, anySeed(4))
	revoked, root, stranger := bundleKey(4), bundleKey(4), bundleKey(4)
	revoked.Revoked, root.Role, stranger.Pub = true, impl.KeyRoot, pubOf(5)
	rootRevoked, noPoint := revoked, bundleKey(4)
	rootRevoked.Role, noPoint.Pub = impl.KeyRoot, lowFirst(plus(fieldPrime, 1))
	for _, e := range []struct {
		name string
		keys []impl.Key
		code int
	}{
		{"the key alone", []impl.Key{bundleKey(4)}, impl.BuWell}, {"the key among others", plainKeys(), impl.BuWell},
		{"the last of five", []impl.Key{bundleKey(0), bundleKey(1), bundleKey(2), bundleKey(3), bundleKey(4)}, impl.BuWell},
		{"none", nil, impl.BuKey}, {"an empty list", []impl.Key{}, impl.BuKey}, {"others", []impl.Key{bundleKey(3), bundleKey(5)}, impl.BuKey},
		{"Revoked", []impl.Key{revoked}, impl.BuKey}, {"KeyRoot", []impl.Key{root}, impl.BuKey}, {"both", []impl.Key{rootRevoked}, impl.BuKey},
		{"another Pub", []impl.Key{stranger}, impl.BuSign}, {"a Pub that is no point", []impl.Key{noPoint}, impl.BuSign},
		{"the same twice", []impl.Key{bundleKey(4), bundleKey(4)}, impl.BuForm}, {"out of order", []impl.Key{bundleKey(5), bundleKey(4)}, impl.BuForm},
		{"nine", append([]impl.Key{bundleKey(4)}, keysOf(5, 6, 7, 8, 9, 10, 11, 12)...), impl.BuForm},
		{"eight", append([]impl.Key{bundleKey(4)}, keysOf(5, 6, 7, 8, 9, 10, 11)...), impl.BuWell},
		{"one of no Role", []impl.Key{bundleKey(4), {Id: 5, Pub: pubOf(5)}}, impl.BuForm}, {"one without Pub", []impl.Key{bundleKey(4), {Id: 5, Role: 2}}, impl.BuForm},
	} {
		checkOpened(t, e.name, env, e.keys, b.Device, b.Floor, e.code)
		if want := wantCode(env, e.keys, b.Device, b.Floor); want != e.code {
			t.Errorf("%s: the tests do not agree: %d", e.name, want)
		}
	}
	other := wantEnvelope(wantBundleBytes(b), 4, anySeed(5))
	checkOpened(t, "another seed", other, plainKeys(), b.Device, b.Floor, impl.BuSign)
}

func TestOpenedLengths(t *testing.T) {
	for _, b := range []impl.Bundle{leastBundle(), plainBundle()} {
		env := wantEnvelope(wantBundleBytes(b), 4, anySeed(4))
		for count := range len(env) {
			checkOpened(t, fmt.Sprint("cut to ", count), env[:count], plainKeys(), b.Device, b.Floor, impl.BuForm)
		}
		for _, count := range []int{len(env) + 1, 512, impl.MaxMsg - 1, impl.MaxMsg, impl.MaxMsg + 1, 2 * impl.MaxMsg, 1 << 20} {
			// All of it is signed: it is too long all the same, or no bundle.
			body := append(wantBundleBytes(b), make([]byte, count-len(env))...)
			checkOpened(t, fmt.Sprint(count, " bytes"), wantEnvelope(body, 4, anySeed(4)), plainKeys(), b.Device, b.Floor, impl.BuForm)
		}
		checkOpened(t, "whole", env, plainKeys(), b.Device, b.Floor, impl.BuWell)
	}
	for _, count := range []int{0, 1, 63, 64, 65, 66, impl.MaxMsg, impl.MaxMsg + 1} {
		for _, env := range fills(count) {
			checkOpened(t, fmt.Sprint(count, " bytes"), env, plainKeys(), 7, 0, impl.BuForm)
		}
	}
	checkOpened(t, "nil", nil, nil, 0, 0, impl.BuForm)
}

// A bundle that may not be is none, though a key that may has signed its bytes.
func TestOpenedSignedBytesThatAreNoBundle(t *testing.T) {
	for _, c := range bundleChanges() {
		b := plainBundle()
		c.do(&b)
		if body := wantBundleBytes(b); !c.ok && len(body) < impl.MaxMsg {
			checkOpened(t, c.name, wantEnvelope(body, 4, anySeed(4)), plainKeys(), b.Device, b.Floor, impl.BuForm)
		}
	}
	long := bundleBytes(plainBundle(), func(out []byte, place, n int) []byte {
		if place == 0 {
			return putLong(out, n, 1)
		}
		return putShort(out, place, n)
	})
	checkOpened(t, "a long number", wantEnvelope(long, 4, anySeed(4)), plainKeys(), 7, 0, impl.BuForm)
}

func TestOpenedNeeds(t *testing.T) {
	keys := plainKeys()
	for _, e := range []struct {
		need impl.Need
		code int
	}{
		{impl.Need{Of: 0, Kind: 2, From: 500, To: 500}, impl.BuWell}, {impl.Need{Of: 0, Kind: 2, From: 501, To: 1000}, impl.BuNeeds},
		{impl.Need{Of: 0, Kind: 2, From: 0, To: 499}, impl.BuNeeds}, {impl.Need{Of: 2, Kind: 3, From: 0, To: 1000}, impl.BuNeeds},
		{impl.Need{Of: 1, Kind: 3, From: 5, To: 6}, impl.BuWell}, {impl.Need{Of: 3, Kind: 0, From: 5, To: 6}, impl.BuWell},
	} {
		b := plainBundle()
		b.Needs = []impl.Need{e.need}
		env, _ := impl.Envelope(b, 4, anySeed(4))
		checkOpened(t, fmt.Sprintf("%+v", e.need), env, keys, b.Device, b.Floor, e.code)
	}
}

// opening is all that Opened is asked with, ahead of the envelope's being signed.
type opening struct {
	bundle        impl.Bundle
	key           int
	seed          []byte
	keys          []impl.Key
	device, floor int
	inBody        func(body []byte) []byte
	inEnvelope    func(env []byte) []byte
}

func wellOpening() opening {
	same := func(b []byte) []byte { return b }
	b := plainBundle()
	return opening{bundle: b, key: 4, seed: anySeed(4), keys: plainKeys(), device: b.Device, floor: b.Floor, inBody: same, inEnvelope: same}
}

func (o opening) envelope() []byte {
	return o.inEnvelope(wantEnvelope(o.inBody(wantBundleBytes(o.bundle)), o.key, o.seed))
}

type reason struct {
	name string
	code int
	do   func(o *opening)
}

// reasonsInOrder: for each code, as the chapter names them, first none, then the ways to come to it.
func reasonsInOrder() [][]reason {
	none := reason{"", impl.BuWell, func(*opening) {}}
	return [][]reason{
		append([]reason{none}, reasonsOfForm()...),
		{
			none,
			{"Revoked", impl.BuKey, func(o *opening) { o.key = 6 }},
			{"KeyRoot", impl.BuKey, func(o *opening) { o.key = 7 }},
			{"no key", impl.BuKey, func(o *opening) { o.key = 200 }},
		},
		{
			none,
			{"another seed", impl.BuSign, func(o *opening) { o.seed = anySeed(99) }},
			{"the key's number turned", impl.BuSign, func(o *opening) {
				// One that may stays one, and one that may not stays none.
				beside := map[int]byte{4: 5, 6: 7, 7: 6, 200: 201}[o.key]
				before := o.inEnvelope
				o.inEnvelope = func(env []byte) []byte {
					env[keyAt] = beside
					return before(env)
				}
			}},
		},
		{
			none,
			{"a device below", impl.BuDevice, func(o *opening) { o.device-- }},
			{"a device above", impl.BuDevice, func(o *opening) { o.device++ }},
		},
		{
			none,
			{"a need of a part", impl.BuNeeds, func(o *opening) { o.bundle.Needs[0].To = 499 }},
			{"a need of no part", impl.BuNeeds, func(o *opening) { o.bundle.Needs[1].Kind = 3 }},
		},
		{
			none,
			{"one below the floor", impl.BuOld, func(o *opening) { o.floor++ }},
		},
	}
}

func reasonsOfForm() []reason {
	return []reason{
		{"keys out of order", impl.BuForm, func(o *opening) { slices.Reverse(o.keys) }},
		{"nine keys", impl.BuForm, func(o *opening) { o.keys = append(o.keys[:4:4], keysOf(8, 9, 10, 11, 12)...) }},
		{"a key of no Role", impl.BuForm, func(o *opening) { o.keys[4].Role = 0 }},
		{"64 bytes", impl.BuForm, func(o *opening) { o.inEnvelope = func(env []byte) []byte { return env[:keyAt] } }},
		{"65 bytes", impl.BuForm, func(o *opening) { o.inBody = func([]byte) []byte { return nil } }},
		{"too many bytes", impl.BuForm, func(o *opening) {
			o.inBody = func(body []byte) []byte { return append(body, make([]byte, impl.MaxMsg)...) }
		}},
		{"one byte less", impl.BuForm, func(o *opening) { o.inBody = func(body []byte) []byte { return body[:len(body)-1] } }},
		{"one byte more", impl.BuForm, func(o *opening) { o.inBody = func(body []byte) []byte { return append(body, 0) } }},
		{"no Number", impl.BuForm, func(o *opening) { o.bundle.Number = 0 }},
	}
}

// chosen: each way to take one of each.
func chosen(lists [][]reason) [][]reason {
	out := [][]reason{nil}
	for _, l := range lists {
		var longer [][]reason
		for _, before := range out {
			for _, one := range l {
				longer = append(longer, append(slices.Clone(before), one))
			}
		}
		out = longer
	}
	return out
}

// All reasons in all ways at once, each two of them among these: the first one counts.
func TestOpenedFirstReasonCounts(t *testing.T) {
	pairs := map[[2]int]int{}
	for _, reasons := range chosen(reasonsInOrder()) {
		o := wellOpening()
		name, code, codes := "", impl.BuWell, []int{}
		for _, r := range reasons {
			r.do(&o)
			if r.code == impl.BuWell {
				continue
			}
			name += r.name + ", "
			codes = append(codes, r.code)
			if code == impl.BuWell {
				code = r.code
			}
		}
		checkOpened(t, name, o.envelope(), o.keys, o.device, o.floor, code)
		if len(codes) == 2 {
			pairs[[2]int(codes)]++
		}
	}
	if len(pairs) != 15 {
		t.Errorf("of 15 pairs of codes there are %v", pairs)
	}
	if pairs[[2]int{impl.BuNeeds, impl.BuOld}] == 0 || pairs[[2]int{impl.BuOld, impl.BuNeeds}] > 0 {
		t.Errorf("the needs are named ahead of the floor: %v", pairs)
	}
}

type keysArgs struct {
	Keys []impl.Key
	Id   int
}

type envelopeArgs struct {
	Bundle impl.Bundle
	Key    int
	Seed   []byte
}

type openedArgs struct {
	Env           []byte
	Keys          []impl.Key
	Device, Floor int
}

type openedAnswer struct {
	Bundle impl.Bundle
	Code   int
}

func callOpened(a openedArgs) openedAnswer {
	b, code := impl.Opened(a.Env, a.Keys, a.Device, a.Floor)
	return openedAnswer{b, code}
}

func TestKeyMemory(t *testing.T) {
	lists := [][]impl.Key{nil, {}, {{}}, plainKeys(), keysOf(0, 1, 2, 3, 4, 5, 6, 7), keysOf(0, 1, 2, 3, 4, 5, 6, 7, 8), keysOf(4, 3), {{Id: 4, Role: 2}}}
	for _, l := range lists {
		checkCall(t, "KeysOk", l, impl.KeysOk)
		for _, id := range []int{-1, 0, 4, 6, 7, 165, 255, 256} {
			checkCall(t, "KeyFor", keysArgs{l, id}, func(a keysArgs) bytesAnswer {
				got, ok := impl.KeyFor(a.Keys, a.Id)
				return bytesAnswer{got, ok}
			})
		}
	}
}

func TestEnvelopeMemory(t *testing.T) {
	for _, b := range memoryBundles() {
		for _, count := range []int{0, 31, 32} {
			for _, key := range []int{-1, 4} {
				checkCall(t, "Envelope", envelopeArgs{b, key, anySeed(4)[:count]}, func(a envelopeArgs) bytesAnswer {
					got, ok := impl.Envelope(a.Bundle, a.Key, a.Seed)
					return bytesAnswer{got, ok}
				})
			}
		}
	}
}

func TestOpenedMemory(t *testing.T) {
	for _, b := range []impl.Bundle{plainBundle(), leastBundle()} {
		env := wantEnvelope(wantBundleBytes(b), 4, anySeed(4))
		for _, e := range [][]byte{nil, env[:64], env[:65], env[:len(env)-1], env, turned(env, 0), turned(env, 8*keyAt+1), append(slices.Clone(env), 0)} {
			for _, keys := range [][]impl.Key{nil, plainKeys(), keysOf(4, 3)} {
				checkCall(t, "Opened", openedArgs{e, keys, b.Device, b.Floor}, callOpened)
			}
		}
		checkCall(t, "Opened for another device", openedArgs{env, plainKeys(), b.Device + 1, b.Floor}, callOpened)
		checkCall(t, "Opened with a floor above", openedArgs{env, plainKeys(), b.Device, b.Floor + 1}, callOpened)
	}
}

// What was answered once may be spoilt: what is answered next is as it was.
func TestBundlesAreNotKept(t *testing.T) {
	b := plainBundle()
	for range 2 {
		env, _ := impl.Envelope(b, 4, anySeed(4))
		if !bytes.Equal(env, wantEnvelope(wantBundleBytes(b), 4, anySeed(4))) {
			t.Errorf("Envelope = %x", env)
		}
		checkOpened(t, "again", env, plainKeys(), b.Device, b.Floor, impl.BuWell)
		got, _ := impl.Opened(env, plainKeys(), b.Device, b.Floor)
		for _, p := range got.Parts {
			spoil(p.Hash)
		}
		for i := range got.Needs {
			got.Needs[i] = impl.Need{}
		}
		part, _ := impl.PartOf(0, 0, []byte{1})
		text, body := impl.BundleText(b), wantBundleBytes(b)
		for _, list := range [][]byte{env, part.Hash, text, body} {
			spoil(list)
		}
		checkBundle(t, "again", b)
		checkPart(t, 0, 0, []byte{1})
	}
}

// A panic at any of these ends the test.
func TestBundlesOfAnyArgument(t *testing.T) {
	numbers := []int{math.MinInt, -1, 0, 1, 255, 256, math.MaxInt}
	lists := [][]byte{nil, {}, {0}, patternBytes(32), patternBytes(64), patternBytes(65), patternBytes(200), make([]byte, impl.MaxMsg), make([]byte, impl.MaxHash+1)}
	keyLists := [][]impl.Key{nil, {}, {{}}, make([]impl.Key, 9), keysOf(0), {{Role: 2, Pub: make([]byte, 32)}}}
	for _, n := range numbers {
		b := impl.Bundle{Device: n, Number: n, Floor: n, Parts: make([]impl.Part, 2), Needs: []impl.Need{{Of: n, Kind: n, From: n, To: n}}}
		checkBundle(t, "any number", b)
		for _, l := range lists {
			checkPart(t, n, n, l)
			if impl.Fits(impl.Part{Kind: n, Version: n, Size: n, Hash: l}, l) {
				t.Errorf("%d, %x fit", n, l)
			}
			if got, ok := impl.Envelope(b, n, l); !isRefused(got, ok) {
				t.Errorf("Envelope(%+v) = %x, %v", b, got, ok)
			}
			checkBundleRead(t, l)
			for _, keys := range keyLists {
				checkOpened(t, "any argument", l, keys, n, n, impl.BuForm)
			}
		}
		for _, keys := range keyLists {
			checkKeys(t, "any keys", keys)
			impl.KeyFor(keys, n)
		}
	}
}
