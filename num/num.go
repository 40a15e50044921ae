// Package num writes numbers and texts as bytes, small numbers in few: see doc/01-num.md.
package num

import (
	"loess/api"
)

const (
	// maxLen is the most bytes of a number: nine of seven bits and one of a single bit are 64 bits.
	maxLen = 10
	// maxText is the most bytes of a text that GetText takes.
	maxText = 1 << 16
)

// Put answers b and, behind it, the number n.
func Put(b []byte, n int64) []byte {
	return addNum(copyWithRoom(b, maxLen), n)
}

// Get answers the number at b's beginning and how many bytes it has.
func Get(b []byte) (int64, int, api.Errno) {
	var u uint64
	for i, c := range b {
		// Nine bytes hold 63 bits: a tenth one can only add the last bit, and nothing may follow it.
		if i == maxLen-1 && c > 1 {
			return 0, 0, api.ErrForm
		}
		u |= uint64(c&0x7f) << (7 * i)
		if c >= 0x80 {
			continue
		}
		// A last byte of nought says nothing, so the number was written longer than needed.
		if c == 0 && i > 0 {
			return 0, 0, api.ErrForm
		}
		return signed(u), i + 1, api.OK
	}
	return 0, 0, api.ErrMore
}

// PutText answers b and, behind it, the length of s and its bytes.
func PutText(b []byte, s string) []byte {
	out := addNum(copyWithRoom(b, maxLen+len(s)), int64(len(s)))
	return append(out, s...)
}

// GetText answers the text at b's beginning and how many bytes it has, those of its length too.
func GetText(b []byte) (string, int, api.Errno) {
	n, at, err := Get(b)
	if err != api.OK {
		return "", 0, err
	}
	if n < 0 || n > maxText {
		return "", 0, api.ErrForm
	}
	end := at + int(n)
	if end > len(b) {
		return "", 0, api.ErrMore
	}
	return string(b[at:end]), end, api.OK
}

// copyWithRoom copies b, because appending to b itself could write into the caller's spare room.
func copyWithRoom(b []byte, more int) []byte {
	out := make([]byte, len(b), len(b)+more)
	copy(out, b)
	return out
}

// addNum appends n to out, which has to be the package's own memory.
func addNum(out []byte, n int64) []byte {
	u := unsigned(n)
	for u >= 0x80 {
		out = append(out, byte(u)|0x80)
		u >>= 7
	}
	return append(out, byte(u))
}

// unsigned gives 2 n, and -2 n - 1 below 0, so that numbers near 0 stay small on both sides.
func unsigned(n int64) uint64 {
	if n < 0 {
		// ^n is -n - 1, which unlike -n wraps for no n.
		return uint64(^n)<<1 | 1
	}
	return uint64(n) << 1
}

// signed turns unsigned back.
func signed(u uint64) int64 {
	half := int64(u >> 1)
	if u&1 == 1 {
		return ^half
	}
	return half
}
