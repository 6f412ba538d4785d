package match_test

import (
	"bytes"
	"slices"
	"testing"

	"slabvault/api"
)

// The model is a second reading of the chapter: for Pack of lists that are reckoned from the last byte to the first, for Unpack of tokens that are all parted ahead of any being told.

// far tells for each distance from 1 to 255 (list d-1), and each place, how many bytes from there on are those d places ahead, at most 131.
func far(b []byte) [][]byte {
	l := make([][]byte, 255)
	for i := range l {
		l[i] = make([]byte, len(b)+1)
		for p := len(b) - 1; p > i; p-- {
			if b[p] == b[p-i-1] {
				l[i][p] = min(131, l[i][p+1]+1)
			}
		}
	}
	return l
}

func modelPack(b []byte) []byte {
	counts := far(b)
	var parts [][]byte // runs' bytes, and the bytes of copies
	var kinds []bool   // whether it is a run
	for p := 0; p < len(b); {
		column := make([]byte, 255)
		for i := range column {
			column[i] = counts[i][p]
		}
		best := slices.Max(column)
		switch last := len(kinds) - 1; {
		case best >= 4:
			parts, kinds = append(parts, []byte{124 + best, byte(slices.Index(column, best) + 1)}), append(kinds, false)
			p += int(best)
			continue
		case last < 0 || !kinds[last] || len(parts[last]) == 128:
			parts, kinds = append(parts, []byte{b[p]}), append(kinds, true)
		default:
			parts[last] = append(parts[last], b[p])
		}
		p++
	}
	var out []byte
	for i, part := range parts {
		if kinds[i] {
			out = append(out, byte(len(part)-1))
		}
		out = append(out, part...)
	}
	if len(out) >= len(b) {
		return plain(b)
	}
	return tokens(out)
}

// part tells tokens one by one; the last one may end early.
func part(b []byte) [][]byte {
	var l [][]byte
	for len(b) > 0 {
		size := 2
		if b[0] < 128 {
			size = 2 + int(b[0])
		}
		size = min(size, len(b))
		l, b = append(l, b[:size]), b[size:]
	}
	return l
}

func modelUnpack(b []byte, most int) ([]byte, api.Errno) {
	if most < 0 || most > api.MaxData {
		return nil, api.ErrArg
	}
	if !bytes.HasPrefix(b, []byte{0}) && !bytes.HasPrefix(b, []byte{1}) {
		return nil, api.ErrCorrupt
	}
	if b[0] == 0 {
		if len(b) > most+1 {
			return nil, api.ErrBig
		}
		return b[1:], api.OK
	}
	var out []byte
	for _, x := range part(b[1:]) {
		var next []byte
		switch {
		case len(x) < 2 || x[0] < 128 && len(x) < int(x[0])+2:
			return nil, api.ErrCorrupt
		case x[0] < 128:
			next = x[1:]
		case x[1] == 0 || int(x[1]) > len(out):
			return nil, api.ErrCorrupt
		default: // a copy that reaches into itself is the last bytes over and over
			count := int(x[0]) - 124
			next = bytes.Repeat(out[len(out)-int(x[1]):], count)[:count]
		}
		if len(out)+len(next) > most {
			return nil, api.ErrBig
		}
		out = append(slices.Clip(out), next...)
	}
	return out, api.OK
}

// wantModel holds what Unpack answers against the second reading.
func wantModel(t *testing.T, b []byte, most int) {
	t.Helper()
	want, fault := modelUnpack(b, most)
	if fault == api.OK {
		wantUnpack(t, b, most, want)
	} else {
		refuse(t, b, most, fault)
	}
}
