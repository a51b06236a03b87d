package tests

import (
	"bytes"
	"crypto/ed25519"
	"crypto/sha256"
	"crypto/sha512"
	"math/big"
	"slices"
	"testing"

	"loop.example/g00412/impl"
)

const (
	seedBytes      = 32
	halfSignature  = 32
	signatureBytes = 64
)

// signExamples are RFC 8032's own, of its chapter 7.1, in digits.
var signExamples = []struct{ seed, pub, msg, sig string }{
	{
		"9d61b19deffd5a60ba844af492ec2cc44449c5697b326919703bac031cae7f60",
		"d75a980182b10ab7d54bfed3c964073a0ee172f3daa62325af021a68f707511a",
		"",
		"e5564300c360ac729086e2cc806e828a84877f1eb8e5d974d873e065224901555fb8821590a33bacc61e39701cf9b46bd25bf5f0595bbe24655141438e7a100b",
	},
	{
		"4ccd089b28ff96da9db6c346ec114e0f5b8a319f35aba624da8cf6ed4fb8a6fb",
		"3d4017c3e843895a92b70aa74d1b7ebc9c982ccf2ec4968cc0cd55f12af4660c",
		"72",
		"92a009a9f0d4cab8720e820b5f642540a2b27b5416503f8fb3762223ebdb69da085ac1e43e15996e458f3613d0f11d8c387b2eaeb4302aeeb00d291612bb0c00",
	},
	{
		"c5aa8df43f9f837bedb7442f31dcb7b166d38535076f094b85ce3a2e0b4458f7",
		"fc51cd8e6218a1a38da47ed00230f0580816ed13ba3303ac5deb911548908025",
		"af82",
		"6291d657deec24024827e69c3abe01a30ce548a284743a445e3680d7db5ac3ac18ff9b538d16f290ae67f760984dc6594a7c15e9716ed28dc027beceea1ec40a",
	},
	{
		"f5e5767cf153319517630f226876b86c8160cc583bc013744c6bf255f5cc0ee5",
		"278117fc144c72340f67d0f2316e8386ceffbf2b2428c9c51fef7c597f1d426e",
		longExample,
		"0aab4c900501b3e24d7cdf4663326a3a87df5e4843b2cbdb67cbf6e460fec350aa5371b1508f9f4528ecea23c436d94b5e8fcd4f681e30a6ac00a9704a188a03",
	},
	{
		"833fe62409237b9d62ec77587520911e9a759cec1d19755b7da901b96dca3d42",
		"ec172b93ad5e563bf4932c70e1245034c35467ef2efd4d64ebf819683467e2bf",
		"ddaf35a193617abacc417349ae20413112e6fa4e89a97ea20a9eeee64b55d39a2192992a274fc1a836ba3c23a3feebbd454d4423643ce80e2a9ac94fa54ca49f",
		"dc2a4459e7369633a52b1bf277839a00201009a3efbf3ecb69bea2186c26b58909351fc9ac90b3ecfdfbc7c66431e0303dca179c138ac17ad9bef1177331a704",
	},
}

// longExample are the digits of 1023 bytes.
const longExample = "" +
	"08b8b2b733424243760fe426a4b54908632110a66c2f6591eabd3345e3e4eb98" +
	"fa6e264bf09efe12ee50f8f54e9f77b1e355f6c50544e23fb1433ddf73be84d8" +
	"79de7c0046dc4996d9e773f4bc9efe5738829adb26c81b37c93a1b270b20329d" +
	"658675fc6ea534e0810a4432826bf58c941efb65d57a338bbd2e26640f89ffbc" +
	"1a858efcb8550ee3a5e1998bd177e93a7363c344fe6b199ee5d02e82d522c4fe" +
	"ba15452f80288a821a579116ec6dad2b3b310da903401aa62100ab5d1a36553e" +
	"06203b33890cc9b832f79ef80560ccb9a39ce767967ed628c6ad573cb116dbef" +
	"efd75499da96bd68a8a97b928a8bbc103b6621fcde2beca1231d206be6cd9ec7" +
	"aff6f6c94fcd7204ed3455c68c83f4a41da4af2b74ef5c53f1d8ac70bdcb7ed1" +
	"85ce81bd84359d44254d95629e9855a94a7c1958d1f8ada5d0532ed8a5aa3fb2" +
	"d17ba70eb6248e594e1a2297acbbb39d502f1a8c6eb6f1ce22b3de1a1f40cc24" +
	"554119a831a9aad6079cad88425de6bde1a9187ebb6092cf67bf2b13fd65f270" +
	"88d78b7e883c8759d2c4f5c65adb7553878ad575f9fad878e80a0c9ba63bcbcc" +
	"2732e69485bbc9c90bfbd62481d9089beccf80cfe2df16a2cf65bd92dd597b07" +
	"07e0917af48bbb75fed413d238f5555a7a569d80c3414a8d0859dc65a46128ba" +
	"b27af87a71314f318c782b23ebfe808b82b0ce26401d2e22f04d83d1255dc51a" +
	"ddd3b75a2b1ae0784504df543af8969be3ea7082ff7fc9888c144da2af58429e" +
	"c96031dbcad3dad9af0dcbaaaf268cb8fcffead94f3c7ca495e056a9b47acdb7" +
	"51fb73e666c6c655ade8297297d07ad1ba5e43f1bca32301651339e22904cc8c" +
	"42f58c30c04aafdb038dda0847dd988dcda6f3bfd15c4b4c4525004aa06eeff8" +
	"ca61783aacec57fb3d1f92b0fe2fd1a85f6724517b65e614ad6808d6f6ee34df" +
	"f7310fdc82aebfd904b01e1dc54b2927094b2db68d6f903b68401adebf5a7e08" +
	"d78ff4ef5d63653a65040cf9bfd4aca7984a74d37145986780fc0b16ac451649" +
	"de6188a7dbdf191f64b5fc5e2ab47b57f7f7276cd419c17a3ca8e1b939ae49e4" +
	"88acba6b965610b5480109c8b17b80e1b7b750dfc7598d5d5011fd2dcc5600a3" +
	"2ef5b52a1ecc820e308aa342721aac0943bf6686b64b2579376504ccc493d97e" +
	"6aed3fb0f9cd71a43dd497f01f17c0e2cb3797aa2a2f256656168e6c496afc5f" +
	"b93246f6b1116398a346f1a641f3b041e989f7914f90cc2c7fff357876e506b5" +
	"0d334ba77c225bc307ba537152f3f1610e4eafe595f6d9d90d11faa933a15ef1" +
	"369546868a7f3a45a96768d40fd9d03412c091c6315cf4fde7cb68606937380d" +
	"b2eaaa707b4c4185c32eddcdd306705e4dc1ffc872eeee475a64dfac86aba41c" +
	"0618983f8741c5ef68d3a101e8a3b8cac60c905c15fc910840b94c00a0b9d0"

func ofDigits(digits string) []byte {
	b, _ := impl.HexRead([]byte(digits))
	return b
}

func anySeed(i int) []byte {
	sum := sha256.Sum256([]byte{byte(i), byte(i >> 8), 7})
	return sum[:]
}

// libSigned is a key, and its signature of msg, as the library makes them.
func libSigned(seed, msg []byte) ([]byte, []byte) {
	own := ed25519.NewKeyFromSeed(seed)
	return own[ed25519.SeedSize:], ed25519.Sign(own, msg)
}

// wantVerify asks the library, which holds the chapter's equation too, but takes keys whose bytes are no PtBytes.
func wantVerify(pub, msg, sig []byte) bool {
	_, ok := wholeRead(pub)
	return ok && len(msg) <= impl.MaxMsg && ed25519.Verify(pub, msg, sig)
}

// wholeCount is k of the chapter.
func wholeCount(first, pub, msg []byte) *big.Int {
	sum := sha512.Sum512(slices.Concat(first, pub, msg))
	return modOrder(wholeOf(sum[:]))
}

// wholeVerify asks for the chapter's words, one by one, in whole numbers.
func wholeVerify(pub, msg, sig []byte) bool {
	if len(msg) > impl.MaxMsg || len(sig) != signatureBytes {
		return false
	}
	key, ok := wholeRead(pub)
	count := wholeOf(sig[halfSignature:])
	if !ok || !belowOrder(count) {
		return false
	}
	part := timesPoint(key, wholeCount(sig[:halfSignature], pub, msg))
	rest := sumOfPoints(timesPoint(wholeBase(), count), oppositeOf(part))
	return bytes.Equal(wholeBytes(rest), sig[:halfSignature])
}

// wholeEquation: R and k A are S B.
func wholeEquation(pub, msg, sig []byte) bool {
	first, ok := wholeRead(sig[:halfSignature])
	key, fine := wholeRead(pub)
	if !ok || !fine {
		return false
	}
	left := sumOfPoints(first, timesPoint(key, wholeCount(sig[:halfSignature], pub, msg)))
	right := timesPoint(wholeBase(), wholeOf(sig[halfSignature:]))
	return left.x.Cmp(right.x) == 0 && left.y.Cmp(right.y) == 0
}

func checkVerify(t *testing.T, pub, msg, sig []byte, want bool) {
	t.Helper()
	if got := impl.Verify(pub, msg, sig); got != want {
		t.Fatalf("Verify(%x, %x, %x) = %v", pub, msg, sig, got)
	}
}

// checkSigned holds key and signature against the library's; what is signed Verifies.
func checkSigned(t *testing.T, seed, msg []byte) {
	t.Helper()
	wantPub, wantSig := libSigned(seed, msg)
	pub, ok := impl.PubOf(seed)
	if !ok || !bytes.Equal(pub, wantPub) {
		t.Fatalf("PubOf(%x) = %x, %v, want %x", seed, pub, ok, wantPub)
	}
	sig, ok := impl.Sign(seed, msg)
	if !ok || !bytes.Equal(sig, wantSig) {
		t.Fatalf("Sign(%x, %x) = %x, %v, want %x", seed, msg, sig, ok, wantSig)
	}
	checkVerify(t, pub, msg, sig, true)
}

func turned(b []byte, bit int) []byte {
	out := slices.Clone(b)
	out[bit/8] ^= 1 << (bit % 8)
	return out
}

func isRefused(b []byte, ok bool) bool { return !ok && len(b) == 0 }

func TestSignExamples(t *testing.T) {
	for _, e := range signExamples {
		seed, pub, msg, sig := ofDigits(e.seed), ofDigits(e.pub), ofDigits(e.msg), ofDigits(e.sig)
		if got, ok := impl.PubOf(seed); !ok || !bytes.Equal(got, pub) {
			t.Errorf("PubOf(%s) = %x, %v, want %s", e.seed, got, ok, e.pub)
		}
		if got, ok := impl.Sign(seed, msg); !ok || !bytes.Equal(got, sig) {
			t.Errorf("Sign of %d bytes = %x, %v, want %s", len(msg), got, ok, e.sig)
		}
		if !impl.Verify(pub, msg, sig) || !wholeVerify(pub, msg, sig) || !wholeEquation(pub, msg, sig) {
			t.Errorf("the signature of %d bytes does not Verify", len(msg))
		}
	}
	if count := len(longExample) / 2; count != 1023 {
		t.Errorf("the long one has %d bytes", count)
	}
}

func TestSignLengths(t *testing.T) {
	for count := range 140 {
		checkSigned(t, anySeed(count), patternBytes(count))
	}
	for _, count := range []int{191, 192, 207, 208, 239, 240, 255, 256, 1000, 1023, 1024, impl.MaxMsg - 1, impl.MaxMsg} {
		for _, msg := range fills(count) {
			checkSigned(t, anySeed(count), msg)
		}
	}
}

func TestSignSeeds(t *testing.T) {
	for i := range 60 {
		checkSigned(t, anySeed(1000+i), anySeed(2000 + i)[:i%seedBytes])
	}
	for _, seed := range fills(seedBytes) {
		for _, count := range []int{0, 111, 112, 127, 128} {
			checkSigned(t, seed, patternBytes(count))
		}
	}
	for bit := range 8 * seedBytes {
		if bit%5 == 0 {
			checkSigned(t, turned(make([]byte, seedBytes), bit), nil)
		}
	}
}

// The key by the chapter's words: the base, as often as the clamped number tells, which is above q.
func TestPubOfWhole(t *testing.T) {
	for i := range 12 {
		seed := anySeed(i)
		sum := sha512.Sum512(seed)
		want := wholeBytes(timesPoint(wholeBase(), wholeClamped(sum[:seedBytes])))
		if got, ok := impl.PubOf(seed); !ok || !bytes.Equal(got, want) {
			t.Errorf("PubOf(%x) = %x, %v, want %x", seed, got, ok, want)
		}
	}
}

func wholeClamped(b []byte) *big.Int {
	n := wholeOf(b)
	for _, bit := range []int{0, 1, 2, 255} {
		n.SetBit(n, bit, 0)
	}
	return n.SetBit(n, 254, 1)
}

func TestClamp(t *testing.T) {
	lists := append(fills(seedBytes), lowFirst(big.NewInt(7)), lowFirst(groupOrder))
	for i := range 200 {
		lists = append(lists, anySeed(i))
	}
	for bit := range 8 * seedBytes {
		lists = append(lists, turned(make([]byte, seedBytes), bit), turned(bytes.Repeat([]byte{255}, seedBytes), bit))
	}
	for _, b := range lists {
		got, ok := impl.Clamp(b)
		if !ok || !bytes.Equal(got, lowFirst(wholeClamped(b))) {
			t.Fatalf("Clamp(%x) = %x, %v", b, got, ok)
		}
		if again, ok := impl.Clamp(got); !ok || !bytes.Equal(again, got) {
			t.Fatalf("Clamp of the clamped %x = %x, %v", got, again, ok)
		}
	}
}

func TestClampEnds(t *testing.T) {
	low := append(make([]byte, seedBytes-1), 64)
	high := append([]byte{248}, bytes.Repeat([]byte{255}, seedBytes-1)...)
	high[seedBytes-1] = 127
	for _, e := range []struct{ b, want []byte }{{make([]byte, seedBytes), low}, {bytes.Repeat([]byte{255}, seedBytes), high}} {
		if got, ok := impl.Clamp(e.b); !ok || !bytes.Equal(got, e.want) {
			t.Errorf("Clamp(%x) = %x, %v, want %x", e.b, got, ok, e.want)
		}
	}
	if got, ok := impl.Clamp(nil); !isRefused(got, ok) {
		t.Errorf("Clamp(nil) = %x, %v", got, ok)
	}
}

func TestSeedLengths(t *testing.T) {
	counts := []int{500, impl.MaxHash, impl.MaxHash + 1, 1 << 20}
	for count := range 70 {
		counts = append(counts, count)
	}
	for _, count := range counts {
		for _, seed := range fills(count) {
			pub, ok := impl.PubOf(seed)
			sig, fine := impl.Sign(seed, seed[:min(count, 9)])
			clamped, well := impl.Clamp(seed)
			if count == seedBytes {
				if !ok || !fine || !well || len(pub) != pointBytes || len(sig) != signatureBytes || len(clamped) != seedBytes {
					t.Errorf("the seed %x is refused", seed)
				}
			} else if !isRefused(pub, ok) || !isRefused(sig, fine) || !isRefused(clamped, well) {
				t.Errorf("%d bytes: PubOf %x, %v; Sign %x, %v; Clamp %x, %v", count, pub, ok, sig, fine, clamped, well)
			}
		}
	}
}

// A message that is one byte too long is refused, though a signature of it is right.
func TestMessageLengths(t *testing.T) {
	seed := anySeed(1)
	for _, count := range []int{impl.MaxMsg + 1, impl.MaxMsg + 2, 2 * impl.MaxMsg, impl.MaxHash - 64, impl.MaxHash, impl.MaxHash + 1, 1 << 20} {
		msg := patternBytes(count)
		if got, ok := impl.Sign(seed, msg); !isRefused(got, ok) {
			t.Errorf("Sign of %d bytes = %x, %v", count, got, ok)
		}
		if got, ok := impl.Sign(seed[:31], msg); !isRefused(got, ok) {
			t.Errorf("Sign of %d bytes with a short seed = %x, %v", count, got, ok)
		}
		pub, sig := libSigned(seed, msg)
		if !ed25519.Verify(pub, msg, sig) || impl.Verify(pub, msg, sig) {
			t.Errorf("a signature of %d bytes Verifies", count)
		}
	}
	msg := patternBytes(impl.MaxMsg)
	pub, sig := libSigned(seed, msg)
	checkVerify(t, pub, msg, sig, true)
	checkVerify(t, pub, msg[:impl.MaxMsg-1], sig, false)
}

func TestVerifyLengths(t *testing.T) {
	msg := patternBytes(50)
	pub, sig := libSigned(anySeed(2), msg)
	for count := range 200 {
		long := make([]byte, 200)
		copy(long, sig)
		checkVerify(t, pub, msg, long[:count], count == signatureBytes)
		long = make([]byte, 200)
		copy(long, pub)
		checkVerify(t, long[:count], msg, sig, count == pointBytes)
	}
	for _, wrong := range [][]byte{nil, {}, append([]byte{0}, sig...), sig[1:], slices.Concat(sig, sig), make([]byte, 1<<20)} {
		checkVerify(t, pub, msg, wrong, false)
	}
	for _, wrong := range [][]byte{nil, {}, append([]byte{0}, pub...), pub[1:], slices.Concat(pub, pub), make([]byte, 1<<20)} {
		checkVerify(t, wrong, msg, sig, false)
	}
	checkVerify(t, nil, nil, nil, false)
	// A byte of the key that is taken for one of the message's leaves the sum as it was.
	checkVerify(t, pub[:31], append([]byte{pub[31]}, msg...), sig, false)
	checkVerify(t, append(slices.Clone(pub), msg[0]), msg[1:], sig, false)
}

func TestVerifyEachBitCounts(t *testing.T) {
	msg := []byte("a device")
	pub, sig := libSigned(anySeed(3), msg)
	checkVerify(t, pub, msg, sig, true)
	for bit := range 8 * signatureBytes {
		checkVerify(t, pub, msg, turned(sig, bit), wantVerify(pub, msg, turned(sig, bit)))
	}
	for bit := range 8 * pointBytes {
		checkVerify(t, turned(pub, bit), msg, sig, wantVerify(turned(pub, bit), msg, sig))
	}
	for bit := range 8 * len(msg) {
		checkVerify(t, pub, turned(msg, bit), sig, false)
	}
}

// A few of the bits, against the chapter's own words and not the library's.
func TestVerifyBitsWhole(t *testing.T) {
	for i := range 4 {
		msg := patternBytes(40 * i)
		pub, sig := libSigned(anySeed(10+i), msg)
		checkVerify(t, pub, msg, sig, wholeVerify(pub, msg, sig) && wholeEquation(pub, msg, sig))
		for bit := i; bit < 8*signatureBytes; bit += 43 {
			checkVerify(t, pub, msg, turned(sig, bit), wholeVerify(pub, msg, turned(sig, bit)))
		}
		for bit := i; bit < 8*pointBytes; bit += 43 {
			checkVerify(t, turned(pub, bit), msg, sig, wholeVerify(turned(pub, bit), msg, sig))
		}
	}
}

func TestVerifyAnother(t *testing.T) {
	for i := range 12 {
		msg := patternBytes(17 * i)
		pub, sig := libSigned(anySeed(i), msg)
		otherPub, otherSig := libSigned(anySeed(i+1), msg)
		_, laterSig := libSigned(anySeed(i), append(slices.Clone(msg), 0))
		checkVerify(t, pub, msg, sig, true)
		checkVerify(t, otherPub, msg, sig, false)
		checkVerify(t, pub, msg, otherSig, false)
		checkVerify(t, pub, append(slices.Clone(msg), 0), sig, false)
		checkVerify(t, pub, append([]byte{0}, msg...), sig, false)
		checkVerify(t, pub, msg, laterSig, false)
		first, last := sig[:halfSignature], sig[halfSignature:]
		opposite := lowFirst(modOrder(new(big.Int).Neg(wholeOf(last))))
		for _, wrong := range [][]byte{
			slices.Concat(last, first), slices.Concat(first, otherSig[halfSignature:]), slices.Concat(otherSig[:halfSignature], last),
			slices.Concat(first, laterSig[halfSignature:]), slices.Concat(first, opposite), slices.Concat(pub, last),
			slices.Concat(turned(first, pointMark), opposite), slices.Concat(first, make([]byte, halfSignature)),
			slices.Concat(lowFirst(big.NewInt(1)), last), make([]byte, signatureBytes), bytes.Repeat([]byte{255}, signatureBytes),
		} {
			checkVerify(t, pub, msg, wrong, wantVerify(pub, msg, wrong))
		}
	}
}

func TestVerifyAnyBytes(t *testing.T) {
	pub, _ := libSigned(anySeed(4), nil)
	for i := range 60 {
		sum := sha512.Sum512([]byte{byte(i), 77})
		sum[63] &= 15
		checkVerify(t, pub, sum[:i], sum[:], wantVerify(pub, sum[:i], sum[:]))
		checkVerify(t, anySeed(i), sum[:i], sum[:], wantVerify(anySeed(i), sum[:i], sum[:]))
	}
}

// Each number that is the last half modulo q makes the same point, but the least one alone is a multiplier.
func TestVerifyLastHalfAboveTheOrder(t *testing.T) {
	for i := range 12 {
		msg := patternBytes(i)
		pub, sig := libSigned(anySeed(30+i), msg)
		checkVerify(t, pub, msg, sig, true)
		times := 0
		for n := sumOf(wholeOf(sig[halfSignature:]), groupOrder); n.BitLen() <= 256; n = sumOf(n, groupOrder) {
			checkVerify(t, pub, msg, slices.Concat(sig[:halfSignature], lowFirst(n)), false)
			times++
		}
		if times < 14 {
			t.Errorf("only %d times", times)
		}
		for bit := 253; bit < 256; bit++ {
			checkVerify(t, pub, msg, turned(sig, 8*halfSignature+bit), false)
		}
	}
}

// With the zero as key the first half is the base, S times, whatever the message: q would do, were it a multiplier.
func TestVerifyLastHalfAtEdges(t *testing.T) {
	pub := wholeBytes(wholeZero())
	for _, count := range around([]*big.Int{big.NewInt(0), groupOrder, power2(252)}, 3, belowOrder) {
		first := wholeBytes(timesPoint(wholeBase(), count))
		checkVerify(t, pub, lowFirst(count), slices.Concat(first, lowFirst(count)), true)
		for n := sumOf(count, groupOrder); n.BitLen() <= 256; n = sumOf(n, groupOrder) {
			checkVerify(t, pub, lowFirst(count), slices.Concat(first, lowFirst(n)), false)
		}
	}
	for _, n := range []*big.Int{power2(253), power2(254), power2(255), plus(power2(253), -1), plus(power2(255), -1), plus(power2(256), -1), fieldPrime} {
		first := wholeBytes(timesPoint(wholeBase(), modOrder(n)))
		checkVerify(t, pub, nil, slices.Concat(first, lowFirst(n)), false)
	}
	zero := lowFirst(big.NewInt(1))
	checkVerify(t, pub, nil, slices.Concat(zero, make([]byte, halfSignature)), true)
	checkVerify(t, pub, nil, slices.Concat(zero, lowFirst(groupOrder)), false)
}

// mixedKey is the base, count times, and a part of small order: the place of that in small.
type mixedKey struct {
	pub   []byte
	count *big.Int
	part  int
	small []wholePoint
}

// signed has the base, r times, and a part of small order as first half: then the equation holds just if the parts go out.
func (m mixedKey) signed(r *big.Int, part int, msg []byte) ([]byte, bool) {
	first := wholeBytes(sumOfPoints(timesPoint(wholeBase(), r), m.small[part]))
	k := wholeCount(first, m.pub, msg)
	last := modOrder(sumOf(r, new(big.Int).Mul(k, m.count)))
	rest := int(new(big.Int).Mod(k, big.NewInt(smallPoints)).Int64())
	return slices.Concat(first, lowFirst(last)), (part+rest*m.part)%smallPoints == 0
}

func mixedKeyOf(count *big.Int, part int) mixedKey {
	small := pointsOfSmallOrder()
	point := sumOfPoints(timesPoint(wholeBase(), count), small[part])
	return mixedKey{pub: wholeBytes(point), count: count, part: part, small: small}
}

// checkMixed: eight times the equation always holds here, itself it does for some alone.
func checkMixed(t *testing.T, m mixedKey) {
	t.Helper()
	found, missed := 0, 0
	for i, r := range slices.Concat([]*big.Int{big.NewInt(0)}, anyScalars(4)) {
		for part := range smallPoints {
			sig, want := m.signed(r, part, patternBytes(i))
			checkVerify(t, m.pub, patternBytes(i), sig, want)
			if want {
				found++
			} else {
				missed++
			}
			if part == i && (wholeVerify(m.pub, patternBytes(i), sig) != want || wholeEquation(m.pub, patternBytes(i), sig) != want) {
				t.Fatalf("the tests do not agree on %x, %x", m.pub, sig)
			}
			raised := sumOf(wholeOf(sig[halfSignature:]), groupOrder)
			checkVerify(t, m.pub, patternBytes(i), slices.Concat(sig[:halfSignature], lowFirst(raised)), false)
		}
	}
	if found == 0 || missed == 0 {
		t.Errorf("part %d: %d found, %d missed", m.part, found, missed)
	}
}

func TestVerifySmallOrder(t *testing.T) {
	for part := range smallPoints {
		checkMixed(t, mixedKeyOf(big.NewInt(0), part))
	}
}

func TestVerifyMixedOrder(t *testing.T) {
	for part := range smallPoints {
		checkMixed(t, mixedKeyOf(anyScalars(20)[10+part], part))
	}
}

// laxBytes are no PtBytes, but would be a point's of small order, if y were taken modulo p and the x of 0 as odd, too.
func laxBytes() [][]byte {
	one, minusOne := big.NewInt(1), plus(fieldPrime, -1)
	numbers := []*big.Int{
		sumOf(one, power2(255)), sumOf(minusOne, power2(255)),
		fieldPrime, sumOf(fieldPrime, power2(255)), plus(fieldPrime, 1), sumOf(plus(fieldPrime, 1), power2(255)),
	}
	var out [][]byte
	for _, n := range numbers {
		out = append(out, lowFirst(n))
	}
	return out
}

// A k that is a multiple of 8 leaves the base alone, so that a key that were read all the same would do.
func TestVerifyKeysThatAreNone(t *testing.T) {
	count := anyScalars(1)[0]
	sig := slices.Concat(wholeBytes(timesPoint(wholeBase(), count)), lowFirst(count))
	for _, pub := range laxBytes() {
		tried := 0
		for i := range 100 {
			msg := []byte{byte(i)}
			k := wholeCount(sig[:halfSignature], pub, msg)
			if new(big.Int).Mod(k, big.NewInt(smallPoints)).Sign() == 0 {
				checkVerify(t, pub, msg, sig, false)
				tried++
			}
		}
		if tried == 0 {
			t.Errorf("no message for %x", pub)
		}
	}
	for _, pub := range noPointBytes() {
		checkVerify(t, pub, nil, sig, false)
		_, right := libSigned(anySeed(5), nil)
		checkVerify(t, pub, nil, right, false)
	}
}

// noPointBytes have a y that is not below p, or one that has no x.
func noPointBytes() [][]byte {
	var out [][]byte
	for by := range int64(19) {
		out = append(out, lowFirst(plus(fieldPrime, by)), lowFirst(sumOf(plus(fieldPrime, by), power2(255))))
	}
	for _, n := range anyNumbers(20) {
		if _, ok := wholeBeside(n, 0); !ok {
			out = append(out, lowFirst(n), lowFirst(sumOf(n, power2(255))))
		}
	}
	return append(out, lowFirst(big.NewInt(2)), lowFirst(plus(power2(256), -1)))
}

// The first half must be the very bytes: others that could be taken for the same point are none.
func TestVerifyFirstHalvesThatAreNone(t *testing.T) {
	zero := make([]byte, halfSignature)
	for _, small := range pointsOfSmallOrder() {
		for _, first := range laxBytes() {
			for i := range 5 {
				checkVerify(t, wholeBytes(small), []byte{byte(i)}, slices.Concat(first, zero), false)
			}
		}
	}
	pub, sig := libSigned(anySeed(6), nil)
	for _, first := range noPointBytes() {
		checkVerify(t, pub, nil, slices.Concat(first, sig[halfSignature:]), false)
		checkVerify(t, wholeBytes(wholeZero()), nil, slices.Concat(first, zero), false)
	}
}

func TestSignMemory(t *testing.T) {
	for _, count := range []int{0, 31, 32, 33} {
		for _, seed := range fills(count) {
			checkMemory(t, "Clamp", func(args [][]byte) []byte { got, _ := impl.Clamp(args[0]); return got }, seed)
			checkMemory(t, "PubOf", func(args [][]byte) []byte { got, _ := impl.PubOf(args[0]); return got }, seed)
		}
		for _, length := range []int{0, 1, 111, 112, impl.MaxMsg, impl.MaxMsg + 1} {
			checkMemory(t, "Sign", func(args [][]byte) []byte { got, _ := impl.Sign(args[0], args[1]); return got }, anySeed(8)[:min(count, 32)], patternBytes(length))
		}
	}
	shared := newRoomy(anySeed(9))
	checkAnswer(t, "Sign of its own seed", []lender{shared}, func() answer {
		got, _ := impl.Sign(shared.list(), shared.list())
		return answer{bytes: [][]byte{got}}
	})
}

func TestVerifyMemory(t *testing.T) {
	pub, sig := libSigned(anySeed(7), nil)
	for _, key := range [][]byte{nil, pub[:31], pub, append(slices.Clone(pub), 0), lowFirst(big.NewInt(2))} {
		for _, signature := range [][]byte{nil, sig[:63], sig, append(slices.Clone(sig), 0), turned(sig, 0), bytes.Repeat([]byte{255}, signatureBytes)} {
			for _, msg := range [][]byte{nil, patternBytes(10), patternBytes(impl.MaxMsg + 1)} {
				want := impl.Verify(key, msg, signature)
				checkMemory(t, "Verify", func(args [][]byte) []byte {
					if impl.Verify(args[0], args[1], args[2]) != want {
						t.Errorf("Verify(%x, %x, %x) with spare room = %v", key, msg, signature, !want)
					}
					return nil
				}, key, msg, signature)
			}
		}
	}
}

// One list may hold the key, the message and the signature, one behind the other.
func TestVerifyOneList(t *testing.T) {
	msg := patternBytes(30)
	pub, sig := libSigned(anySeed(11), msg)
	whole := slices.Concat(pub, msg, sig)
	was := slices.Clone(whole)
	at, end := len(pub), len(pub)+len(msg)
	for range 2 {
		checkVerify(t, whole[:at], whole[at:end], whole[end:], true)
		checkVerify(t, whole[:at], whole[at:end-1], whole[end:], false)
		checkVerify(t, whole[:at-1], whole[at:end], whole[end:], false)
		checkVerify(t, whole[:at], whole[at:end], whole[end:len(whole)-1], false)
		checkVerify(t, whole[:at+1], whole[at:end], whole[end:], false)
	}
	if !bytes.Equal(whole, was) {
		t.Errorf("%x became %x", was, whole)
	}
}

// What was answered once may be spoilt: what is answered next is as it was.
func TestSignaturesAreNotKept(t *testing.T) {
	seed, msg := anySeed(12), patternBytes(20)
	for range 2 {
		checkSigned(t, seed, msg)
		pub, _ := impl.PubOf(seed)
		sig, _ := impl.Sign(seed, msg)
		clamped, _ := impl.Clamp(seed)
		for _, b := range [][]byte{pub, sig, clamped} {
			spoil(b)
		}
	}
}
