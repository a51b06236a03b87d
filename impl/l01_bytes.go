package impl

import (
	"bytes"
	"slices"
)

const MaxNum = 2147483647
const MaxText = 64

const (
	numBits     = 7
	numMore     = 1 << numBits
	maxNumBytes = 5
	maxHexBytes = 4096
	hexDigits   = "0123456789abcdef"
)

func PutNum(b []byte, n int) []byte {
	digits, count := splitNum(n)
	return slices.Concat(b, digits[:count])
}

func GetNum(b []byte, at int) (int, int) {
	if at < 0 || at >= len(b) {
		return 0, -1
	}
	n := 0
	for i, c := range b[at:min(at+maxNumBytes, len(b))] {
		n |= int(c%numMore) << (numBits * i)
		if c >= numMore {
			continue
		}
		// A last 0 behind others would be a second way to write the number.
		if c == 0 && i > 0 || n > MaxNum {
			return 0, -1
		}
		return n, at + i + 1
	}
	return 0, -1
}

func PutText(b []byte, t []byte) []byte {
	if len(t) > MaxText {
		return bytes.Clone(b)
	}
	return slices.Concat(PutNum(b, len(t)), t)
}

func GetText(b []byte, at int) ([]byte, int) {
	count, from := GetNum(b, at)
	if from < 0 || count > MaxText || count > len(b)-from {
		return nil, -1
	}
	return bytes.Clone(b[from : from+count]), from + count
}

func NumLen(n int) int {
	_, count := splitNum(n)
	return count
}

func HasPrefix(b []byte, p []byte) bool {
	return bytes.HasPrefix(b, p)
}

func Common(a []byte, b []byte) int {
	count := min(len(a), len(b))
	for i := range count {
		if a[i] != b[i] {
			return i
		}
	}
	return count
}

func Hex(b []byte) []byte {
	if len(b) > maxHexBytes {
		return nil
	}
	out := make([]byte, 0, 2*len(b))
	for _, c := range b {
		out = append(out, hexDigits[c>>4], hexDigits[c&15])
	}
	return out
}

func HexRead(b []byte) ([]byte, bool) {
	if len(b) > 2*maxHexBytes || len(b)%2 != 0 {
		return nil, false
	}
	out := make([]byte, 0, len(b)/2)
	for i := 0; i < len(b); i += 2 {
		high, low := digitValue(b[i]), digitValue(b[i+1])
		if high < 0 || low < 0 {
			return nil, false
		}
		out = append(out, byte(high<<4|low))
	}
	return out, true
}

// splitNum leaves n within MaxNum, so that five bytes are always enough.
func splitNum(n int) ([maxNumBytes]byte, int) {
	var digits [maxNumBytes]byte
	if n < 0 || n > MaxNum {
		return digits, 0
	}
	last := 0
	for n >= numMore {
		digits[last] = byte(n%numMore + numMore)
		n /= numMore
		last++
	}
	digits[last] = byte(n)
	return digits, last + 1
}

// digitValue takes -1 for a byte that is no digit: 0 is the value of one.
func digitValue(c byte) int {
	for value, digit := range hexDigits {
		if digit == rune(c) {
			return value
		}
	}
	return -1
}
