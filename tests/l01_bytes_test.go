package tests

import (
	"bytes"
	"encoding/binary"
	"encoding/hex"
	"math"
	"testing"

	"loop.example/g00412/impl"
)

// edgeNums: for each length the least and the greatest number that has it.
var edgeNums = []struct {
	n     int
	bytes string
}{
	{0, "\x00"},
	{1, "\x01"},
	{127, "\x7f"},
	{128, "\x80\x01"},
	{300, "\xac\x02"},
	{16383, "\xff\x7f"},
	{16384, "\x80\x80\x01"},
	{2097151, "\xff\xff\x7f"},
	{2097152, "\x80\x80\x80\x01"},
	{268435455, "\xff\xff\xff\x7f"},
	{268435456, "\x80\x80\x80\x80\x01"},
	{impl.MaxNum, "\xff\xff\xff\xff\x07"},
}

var wrongNums = []int{-1, -128, math.MinInt, math.MinInt32, impl.MaxNum + 1, 1 << 32, 1<<35 - 1, 1 << 35, math.MaxInt}

var edgePlaces = []int{math.MinInt, math.MinInt + 1, -1 << 32, -6, -5, -1, 1 << 31, 1 << 32, math.MaxInt - 5, math.MaxInt - 1, math.MaxInt}

func patternBytes(count int) []byte {
	b := make([]byte, count)
	for i := range b {
		b[i] = byte(i*i*31 + i*7 + count)
	}
	return b
}

// wantNum reads a number by the library's means, and holds it against the document's limits.
func wantNum(b []byte, at int) (int, int) {
	if at < 0 || at > len(b) {
		return 0, -1
	}
	v, count := binary.Uvarint(b[at:])
	if count <= 0 || count > 5 || v > impl.MaxNum || len(binary.AppendUvarint(nil, v)) != count {
		return 0, -1
	}
	return int(v), at + count
}

func wantText(b []byte, at int) ([]byte, int) {
	n, next := wantNum(b, at)
	if next < 0 || n > impl.MaxText || next+n > len(b) {
		return nil, -1
	}
	return b[next : next+n], next + n
}

func checkGetNum(t *testing.T, b []byte, at int) {
	t.Helper()
	n, next := impl.GetNum(b, at)
	want, wantNext := wantNum(b, at)
	if n != want || next != wantNext {
		t.Fatalf("GetNum(%x, %d) = %d, %d, want %d, %d", b, at, n, next, want, wantNext)
	}
	if next >= 0 && !bytes.Equal(impl.PutNum(nil, n), b[at:next]) {
		t.Fatalf("GetNum(%x, %d) = %d, %d: those are not its bytes", b, at, n, next)
	}
}

func checkGetText(t *testing.T, b []byte, at int) {
	t.Helper()
	text, next := impl.GetText(b, at)
	want, wantNext := wantText(b, at)
	if !bytes.Equal(text, want) || next != wantNext {
		t.Fatalf("GetText(%x, %d) = %x, %d, want %x, %d", b, at, text, next, want, wantNext)
	}
	if next >= 0 && !bytes.Equal(impl.PutText(nil, text), b[at:next]) {
		t.Fatalf("GetText(%x, %d) = %x, %d: those are not its bytes", b, at, text, next)
	}
}

func checkPutNum(t *testing.T, n int) {
	t.Helper()
	for _, before := range []string{"", "\x80\x00"} {
		b := impl.PutNum([]byte(before), n)
		if want := binary.AppendUvarint([]byte(before), uint64(n)); !bytes.Equal(b, want) {
			t.Fatalf("PutNum(%x, %d) = %x, want %x", before, n, b, want)
		}
		if len(b)-len(before) != impl.NumLen(n) {
			t.Fatalf("NumLen(%d) = %d, but %x behind %x", n, impl.NumLen(n), b, before)
		}
		for _, after := range []string{"", "\x00", "\xff"} {
			got, next := impl.GetNum(append(bytes.Clone(b), after...), len(before))
			if got != n || next != len(b) {
				t.Fatalf("%d came back as %d, %d from %x and %x", n, got, next, b, after)
			}
		}
	}
}

func TestConstants(t *testing.T) {
	if impl.MaxNum != 2147483647 || impl.MaxText != 64 {
		t.Fatal(impl.MaxNum, impl.MaxText)
	}
}

func TestNumEdges(t *testing.T) {
	for _, c := range edgeNums {
		if got := impl.PutNum([]byte{9}, c.n); string(got) != "\x09"+c.bytes {
			t.Errorf("PutNum(09, %d) = %x", c.n, got)
		}
		if got := impl.NumLen(c.n); got != len(c.bytes) {
			t.Errorf("NumLen(%d) = %d", c.n, got)
		}
		n, next := impl.GetNum([]byte("\x09"+c.bytes+"\x00"), 1)
		if n != c.n || next != 1+len(c.bytes) {
			t.Errorf("GetNum of %x = %d, %d", c.bytes, n, next)
		}
	}
}

func TestNumsComeBack(t *testing.T) {
	for n := range 1 << 15 {
		checkPutNum(t, n)
	}
	for shift := range 32 {
		for delta := -3; delta <= 3; delta++ {
			if n := 1<<shift + delta; n >= 0 && n <= impl.MaxNum {
				checkPutNum(t, n)
			}
		}
	}
	for n := impl.MaxNum; n > 0; n -= 1 + n/999 {
		checkPutNum(t, n)
	}
}

func TestPutNumLeavesAway(t *testing.T) {
	for _, n := range wrongNums {
		for _, b := range []string{"", "\x00", "ab"} {
			if got := impl.PutNum([]byte(b), n); string(got) != b {
				t.Errorf("PutNum(%x, %d) = %x", b, n, got)
			}
		}
		if got := impl.NumLen(n); got != 0 {
			t.Errorf("NumLen(%d) = %d", n, got)
		}
	}
}

func TestGetNumRefuses(t *testing.T) {
	cases := []struct {
		name, b string
	}{
		{"nothing", ""},
		{"one byte, cut off", "\x80"},
		{"two bytes, cut off", "\xff\x81"},
		{"three bytes, cut off", "\x80\x80\x80"},
		{"four bytes, cut off", "\xff\xff\xff\xff"},
		{"five bytes, cut off", "\xff\xff\xff\xff\x87"},
		{"six bytes", "\x80\x80\x80\x80\x80\x01"},
		{"six bytes, the last 0", "\x80\x80\x80\x80\x80\x00"},
		{"ten bytes", "\xff\xff\xff\xff\xff\xff\xff\xff\xff\x01"},
		{"eleven bytes", "\x80\x80\x80\x80\x80\x80\x80\x80\x80\x80\x01"},
		{"the last of two 0", "\x80\x00"},
		{"the last of two 0, not the first", "\xff\x00"},
		{"the last of three 0", "\x80\x80\x00"},
		{"the last of four 0", "\x81\x82\x83\x00"},
		{"the last of five 0", "\xff\xff\xff\xff\x00"},
		{"one above MaxNum", "\x80\x80\x80\x80\x08"},
		{"far above MaxNum", "\xff\xff\xff\xff\x7f"},
	}
	for _, c := range cases {
		for _, before := range []string{"", "\x01", "\x80\x80"} {
			if n, next := impl.GetNum([]byte(before+c.b), len(before)); n != 0 || next != -1 {
				t.Errorf("%s: GetNum(%x, %d) = %d, %d", c.name, before+c.b, len(before), n, next)
			}
		}
	}
}

// A byte behind the list's end would make these whole.
func TestSpareRoomIsNotRead(t *testing.T) {
	whole := []byte("\x80\x01")
	if n, next := impl.GetNum(whole[:1], 0); n != 0 || next != -1 {
		t.Errorf("GetNum = %d, %d", n, next)
	}
	whole = []byte("\x02ab")
	if text, next := impl.GetText(whole[:2], 0); len(text) != 0 || next != -1 {
		t.Errorf("GetText = %x, %d", text, next)
	}
	if impl.HasPrefix(whole[:1], whole[:2]) || impl.Common(whole[:1], whole) != 1 {
		t.Error("bytes behind the end were held against others")
	}
}

func TestPlacesOutside(t *testing.T) {
	for _, b := range []string{"", "\x01", "\x00\x01a", "\x01\x01\x01\x01\x01\x01\x01\x01"} {
		places := append([]int{len(b), len(b) + 1, len(b) + 5}, edgePlaces...)
		for _, at := range places {
			if n, next := impl.GetNum([]byte(b), at); n != 0 || next != -1 {
				t.Errorf("GetNum(%x, %d) = %d, %d", b, at, n, next)
			}
			if text, next := impl.GetText([]byte(b), at); len(text) != 0 || next != -1 {
				t.Errorf("GetText(%x, %d) = %x, %d", b, at, text, next)
			}
		}
	}
	if n, next := impl.GetNum([]byte{5, 6}, 1); n != 6 || next != 2 {
		t.Errorf("the last place: %d, %d", n, next)
	}
}

func TestReadBytesAreItsBytes(t *testing.T) {
	for i := range 1 << 16 {
		b := []byte{byte(i >> 8), byte(i)}
		checkGetNum(t, b[1:], 0)
		checkGetNum(t, b, 0)
		checkGetNum(t, b, 1)
		checkGetText(t, b, 0)
		checkGetText(t, b, 1)
	}
	some := []byte{0, 1, 2, 7, 8, 127, 128, 129, 255}
	for i := range 9 * 9 * 9 * 9 * 9 * 9 {
		b := make([]byte, 6)
		for k, rest := 0, i; k < len(b); k, rest = k+1, rest/9 {
			b[k] = some[rest%9]
		}
		checkGetNum(t, b, 0)
		checkGetText(t, b, 0)
		checkGetText(t, b, 1)
	}
}

func TestTextsComeBack(t *testing.T) {
	for count := range impl.MaxText + 1 {
		text := patternBytes(count)
		for _, before := range []string{"", "\x05", "\xff\xff"} {
			b := impl.PutText([]byte(before), text)
			if want := before + string(rune(count)) + string(text); string(b) != want {
				t.Fatalf("PutText(%x, %x) = %x", before, text, b)
			}
			got, next := impl.GetText(append(bytes.Clone(b), 7), len(before))
			if !bytes.Equal(got, text) || next != len(b) {
				t.Fatalf("%x came back as %x, %d", text, got, next)
			}
		}
	}
}

func TestPutTextLeavesAway(t *testing.T) {
	for _, count := range []int{impl.MaxText + 1, impl.MaxText + 2, 127, 128, 256, 5000} {
		for _, b := range []string{"", "\x00", "ab"} {
			if got := impl.PutText([]byte(b), patternBytes(count)); string(got) != b {
				t.Errorf("PutText(%x, %d bytes) = %x", b, count, got)
			}
		}
	}
}

func TestGetTextRefuses(t *testing.T) {
	long := string(patternBytes(300))
	cases := []struct {
		name, b string
	}{
		{"nothing", ""},
		{"only a length", "\x01"},
		{"one byte of two", "\x02a"},
		{"63 bytes of 64", "\x40" + long[:63]},
		{"65 bytes", "\x41" + long},
		{"128 bytes", "\x80\x01" + long},
		{"a length that is cut off", "\x80"},
		{"a length with a last 0", "\x81\x00" + long},
		{"a length of six bytes", "\x81\x80\x80\x80\x80\x00" + long},
		{"a length of MaxNum", "\xff\xff\xff\xff\x07" + long},
		{"a length above MaxNum", "\x80\x80\x80\x80\x08" + long},
	}
	for _, c := range cases {
		for _, before := range []string{"", "\x01", "\x80\x80"} {
			if text, next := impl.GetText([]byte(before+c.b), len(before)); len(text) != 0 || next != -1 {
				t.Errorf("%s: %x, %d", c.name, text, next)
			}
		}
	}
	if text, next := impl.GetText([]byte("\x40"+long), 0); string(text) != long[:64] || next != 65 {
		t.Errorf("64 bytes: %x, %d", text, next)
	}
}

func TestPrefixes(t *testing.T) {
	cases := []struct {
		a, b   string
		common int
	}{
		{"", "", 0},
		{"a", "", 0},
		{"a", "b", 0},
		{"a", "a", 1},
		{"abc", "ab", 2},
		{"abc", "abd", 2},
		{"abcx", "abdx", 2},
		{"xbc", "abc", 0},
		{"\x00\x00", "\x00", 1},
		{"\xff\xff\x00", "\xff\xff\x80", 2},
	}
	for _, c := range cases {
		a, b := []byte(c.a), []byte(c.b)
		if got := impl.Common(a, b); got != c.common {
			t.Errorf("Common(%x, %x) = %d", a, b, got)
		}
		if got := impl.Common(b, a); got != c.common {
			t.Errorf("Common(%x, %x) = %d", b, a, got)
		}
		if got := impl.HasPrefix(a, b); got != (c.common == len(b)) {
			t.Errorf("HasPrefix(%x, %x) = %v", a, b, got)
		}
		if got := impl.HasPrefix(b, a); got != (c.common == len(a)) {
			t.Errorf("HasPrefix(%x, %x) = %v", b, a, got)
		}
	}
}

func TestPrefixesOfLongLists(t *testing.T) {
	a := patternBytes(500)
	for at := range a {
		b := bytes.Clone(a)
		b[at] ^= 0x20
		if impl.Common(a, b) != at || impl.Common(a[:at], b) != at {
			t.Fatalf("Common, unlike at %d: %d", at, impl.Common(a, b))
		}
		if impl.HasPrefix(a, b) || impl.HasPrefix(a, b[:at+1]) || !impl.HasPrefix(a, b[:at]) || impl.HasPrefix(a[:at], a) {
			t.Fatalf("HasPrefix, unlike at %d", at)
		}
	}
}

func TestDigitsOfEachByte(t *testing.T) {
	for i := range 256 {
		b := []byte{byte(i)}
		digits := impl.Hex(b)
		if string(digits) != hex.EncodeToString(b) {
			t.Errorf("Hex(%x) = %q", b, digits)
		}
		if got, ok := impl.HexRead(digits); !ok || !bytes.Equal(got, b) {
			t.Errorf("HexRead(%q) = %x, %v", digits, got, ok)
		}
	}
}

func TestDigitsReadAreItsDigits(t *testing.T) {
	isDigit := func(c byte) bool { return c >= '0' && c <= '9' || c >= 'a' && c <= 'f' }
	for i := range 1 << 16 {
		b := []byte{byte(i >> 8), byte(i)}
		got, ok := impl.HexRead(b)
		if ok != (isDigit(b[0]) && isDigit(b[1])) {
			t.Fatalf("HexRead(%q) = %x, %v", b, got, ok)
		}
		if ok && !bytes.Equal(impl.Hex(got), b) || !ok && len(got) != 0 {
			t.Fatalf("HexRead(%q) = %x, %v", b, got, ok)
		}
	}
}

func TestHexLimits(t *testing.T) {
	for _, count := range []int{0, 1, 2, 63, 4095, 4096} {
		b := patternBytes(count)
		digits := impl.Hex(b)
		if string(digits) != hex.EncodeToString(b) {
			t.Errorf("Hex of %d bytes: %d digits", count, len(digits))
		}
		if got, ok := impl.HexRead(digits); !ok || !bytes.Equal(got, b) {
			t.Errorf("HexRead of %d digits: %d bytes, %v", len(digits), len(got), ok)
		}
	}
	for _, count := range []int{4097, 4098, 8192, 20000} {
		if got := impl.Hex(patternBytes(count)); len(got) != 0 {
			t.Errorf("Hex of %d bytes: %d digits", count, len(got))
		}
	}
	for _, count := range []int{1, 3, 8191, 8193, 8194, 8195, 16384, 40000} {
		if got, ok := impl.HexRead(bytes.Repeat([]byte{'0'}, count)); ok || len(got) != 0 {
			t.Errorf("HexRead of %d digits: %d bytes, %v", count, len(got), ok)
		}
	}
}

func TestHexReadRefusesAnyPlace(t *testing.T) {
	for _, wrong := range []byte{'A', 'F', 'g', 'G', '/', ':', '`', '@', ' ', '\n', 0, 0x80, 0xb0, 0xff} {
		for at := range 12 {
			b := []byte("0123456789af")
			b[at] = wrong
			if got, ok := impl.HexRead(b); ok || len(got) != 0 {
				t.Errorf("HexRead(%q) = %x, %v", b, got, ok)
			}
		}
	}
	b := bytes.Repeat([]byte{'0'}, 8192)
	b[8191] = 'A'
	if got, ok := impl.HexRead(b); ok || len(got) != 0 {
		t.Errorf("a wrong last digit of 8192: %d bytes, %v", len(got), ok)
	}
}

func TestEmptyLists(t *testing.T) {
	for _, empty := range [][]byte{nil, {}} {
		if got := impl.PutNum(empty, 0); string(got) != "\x00" {
			t.Errorf("PutNum = %x", got)
		}
		if got := impl.PutText(empty, empty); string(got) != "\x00" {
			t.Errorf("PutText = %x", got)
		}
		if n, next := impl.GetNum(empty, 0); n != 0 || next != -1 {
			t.Errorf("GetNum = %d, %d", n, next)
		}
		if text, next := impl.GetText(empty, 0); len(text) != 0 || next != -1 {
			t.Errorf("GetText = %x, %d", text, next)
		}
		if !impl.HasPrefix(empty, nil) || !impl.HasPrefix([]byte{1}, empty) || impl.HasPrefix(empty, []byte{1}) {
			t.Error("HasPrefix")
		}
		if impl.Common(empty, []byte{1}) != 0 || impl.Common([]byte{1}, empty) != 0 || impl.Common(empty, empty) != 0 {
			t.Error("Common")
		}
		if got := impl.Hex(empty); len(got) != 0 {
			t.Errorf("Hex = %x", got)
		}
		if got, ok := impl.HexRead(empty); !ok || len(got) != 0 {
			t.Errorf("HexRead = %x, %v", got, ok)
		}
	}
	if text, next := impl.GetText([]byte{9, 0, 9}, 1); len(text) != 0 || next != 2 {
		t.Errorf("an empty text: %x, %d", text, next)
	}
}

func TestMemoryOfPuts(t *testing.T) {
	nums := append([]int{0, 1, 127, 128, 1 << 20, impl.MaxNum}, wrongNums...)
	for _, b := range []string{"", "a", "abcdefgh"} {
		for _, n := range nums {
			checkMemory(t, "PutNum", func(a [][]byte) []byte { return impl.PutNum(a[0], n) }, []byte(b))
		}
		for _, count := range []int{0, 1, 8, impl.MaxText, impl.MaxText + 1} {
			checkMemory(t, "PutText", func(a [][]byte) []byte { return impl.PutText(a[0], a[1]) }, []byte(b), patternBytes(count))
		}
	}
}

func TestMemoryOfGets(t *testing.T) {
	for _, b := range []string{"", "\x00", "\x80", "\x80\x01", "\x01", "\x03abc", "\x03abcd", "\x03ab"} {
		checkMemory(t, "GetNum", func(a [][]byte) []byte {
			impl.GetNum(a[0], 0)
			return nil
		}, []byte(b))
		checkMemory(t, "GetText", func(a [][]byte) []byte {
			text, _ := impl.GetText(a[0], 0)
			return text
		}, []byte(b))
	}
}

func TestMemoryOfPrefixes(t *testing.T) {
	checkMemory(t, "HasPrefix, Common", func(a [][]byte) []byte {
		impl.HasPrefix(a[0], a[1])
		impl.Common(a[0], a[1])
		return nil
	}, []byte("abc"), []byte("abd"))
}

func TestMemoryOfDigits(t *testing.T) {
	for _, count := range []int{0, 1, 5, 64, 4096, 4097} {
		checkMemory(t, "Hex", func(a [][]byte) []byte { return impl.Hex(a[0]) }, patternBytes(count))
	}
	for _, b := range []string{"", "0", "00", "0a1f", "0A", "0a1"} {
		checkMemory(t, "HexRead", func(a [][]byte) []byte {
			got, _ := impl.HexRead(a[0])
			return got
		}, []byte(b))
	}
}

// A panic at any of these ends the test.
func TestAnyArgumentIsAnswered(t *testing.T) {
	lists := [][]byte{nil, {}, {0}, {128}, {255, 255, 255, 255, 255}, {64}, {1, 2}, patternBytes(65), patternBytes(9000)}
	nums := append(append([]int{0, 1, 64, 65, impl.MaxNum}, wrongNums...), edgePlaces...)
	for _, a := range lists {
		impl.Hex(a)
		impl.HexRead(a)
		for _, n := range nums {
			impl.NumLen(n)
			impl.PutNum(a, n)
			checkGetNum(t, a, n)
			checkGetText(t, a, n)
		}
		for _, b := range lists {
			impl.PutText(a, b)
			if impl.HasPrefix(a, b) != bytes.HasPrefix(a, b) || impl.HasPrefix(a, b) != (impl.Common(a, b) == len(b)) {
				t.Errorf("HasPrefix(%x, %x) = %v", a, b, impl.HasPrefix(a, b))
			}
		}
	}
}
