// Package octet is layer 1: numbers as bytes in either order, and runs of bytes that say how long they are. See shared/doc/01-octet.md.
package octet

import "slabvault/api"

// maxWidth is the width of the widest number: more would not fit a uint64.
const maxWidth = 8

// lengthWidth is the width of the number that stands ahead of a run.
const lengthWidth = 4

// Put tells bytes with a number behind them.
func Put(b []byte, width int, big bool, u uint64) ([]byte, api.Errno) {
	if e := numberError(u, width); e != api.OK {
		return nil, e
	}
	out := room(b, width)
	layDigits(out[len(b):], big, u)
	return out, api.OK
}

// Get tells the number at a place.
func Get(b []byte, at, width int, big bool) (uint64, api.Errno) {
	if !isWidth(width) || !isPlace(b, at) {
		return 0, api.ErrArg
	}
	if len(b)-at < width {
		return 0, api.ErrShort
	}
	return readDigits(b[at:at+width], big), api.OK
}

// Signed tells a number as one with a sign.
func Signed(u uint64, width int) (int, api.Errno) {
	if e := numberError(u, width); e != api.OK {
		return 0, e
	}
	// The highest digit's highest bit is moved to where int64 has its sign, because the way back spreads it; 2^64 itself is never made.
	spare := 8 * (maxWidth - width)
	return int(int64(u<<spare) >> spare), api.OK
}

// Swap tells bytes the other way about.
func Swap(b []byte) []byte {
	out := make([]byte, len(b))
	for i := range len(b) {
		out[len(b)-1-i] = b[i]
	}
	return out
}

// PutBytes tells bytes with a run of others behind them.
func PutBytes(b, x []byte) ([]byte, api.Errno) {
	if len(x) > api.MaxBlob {
		return nil, api.ErrBig
	}
	out := room(b, lengthWidth+len(x))
	begin := len(b) + lengthWidth
	layDigits(out[len(b):begin], true, uint64(len(x)))
	copy(out[begin:], x)
	return out, api.OK
}

// GetBytes tells the run at a place, and the place behind it.
func GetBytes(b []byte, at int) ([]byte, int, api.Errno) {
	count, e := Get(b, at, lengthWidth, true)
	if e != api.OK {
		return nil, 0, e
	}
	if count > api.MaxBlob {
		return nil, 0, api.ErrBig
	}
	begin, size := at+lengthWidth, int(count)
	if len(b)-begin < size {
		return nil, 0, api.ErrShort
	}
	return room(b[begin:begin+size], 0), begin + size, api.OK
}

// isWidth says whether there are numbers of a width.
func isWidth(width int) bool { return 1 <= width && width <= maxWidth }

// isPlace says whether a place is in bytes, or right behind the last one.
func isPlace(b []byte, at int) bool { return 0 <= at && at <= len(b) }

// numberError tells why u is no number of a width.
func numberError(u uint64, width int) api.Errno {
	if !isWidth(width) {
		return api.ErrArg
	}
	if u>>(8*width) != 0 {
		return api.ErrBig
	}
	return api.OK
}

// room tells a copy of bytes with more behind it: an answer shares no memory with what was handed in, so nothing is appended in place.
func room(b []byte, more int) []byte {
	out := make([]byte, len(b)+more)
	copy(out, b)
	return out
}

// digitPlace makes what tells where a digit stands, the lowest one being 0, so that laying and reading need not know the order.
func digitPlace(width int, big bool) func(digit int) int {
	if big {
		return func(digit int) int { return width - 1 - digit }
	}
	return func(digit int) int { return digit }
}

// layDigits fills bytes with the digits of u.
func layDigits(to []byte, big bool, u uint64) {
	place := digitPlace(len(to), big)
	for digit := range len(to) {
		to[place(digit)] = byte(u >> (8 * digit))
	}
}

// readDigits tells the number whose digits fill bytes.
func readDigits(from []byte, big bool) uint64 {
	place := digitPlace(len(from), big)
	var u uint64
	for digit := range len(from) {
		u |= uint64(from[place(digit)]) << (8 * digit)
	}
	return u
}
