package path_test

import (
	"slices"

	"slabvault/api"
)

// The model is a second reading of the chapter: of bytes, of the places of '/' among them, and of what stands ahead of each part.

func modelName(s string) bool {
	b := []byte(s)
	for _, x := range b {
		if x == 0 || x == 47 {
			return false
		}
	}
	dots := 0
	for dots < len(b) && b[dots] == 46 {
		dots++
	}
	if dots == len(b) && dots < 3 {
		return false // no byte, or one dot, or two
	}
	return len(b) <= 64
}

// modelParts tells the parts of a text that begins with '/', found from the last one on.
func modelParts(s string) []string {
	var l []string
	b := []byte(s)
	end := len(b)
	for i := len(b) - 1; i >= 0; i-- {
		if b[i] == 47 {
			l = append(l, string(b[i+1:end]))
			end = i
		}
	}
	slices.Reverse(l)
	return l
}

// onlyNames tells those of some parts that are names.
func onlyNames(l []string) []string {
	var out []string
	for _, s := range l {
		if modelName(s) {
			out = append(out, s)
		}
	}
	return out
}

func modelParse(s string) ([]string, int, api.Errno) {
	if len(s) >= 1025 {
		return nil, 0, api.ErrBig
	}
	if s == "" || s[0] != 47 {
		return nil, 0, api.ErrPath
	}
	l := modelParts(s)
	for i, part := range l {
		ahead := len(onlyNames(l[:i]))
		switch {
		case modelName(part) && ahead == 16:
			return nil, ahead, api.ErrBig
		case !modelName(part) && len(part) > 0 && part != ".":
			return nil, ahead, api.ErrName
		}
	}
	return onlyNames(l), 0, api.OK
}

func modelJoin(l []string) (string, int, api.Errno) {
	if len(l) >= 17 {
		return "", 0, api.ErrBig
	}
	if good := len(onlyNames(l)); good < len(l) {
		at := slices.IndexFunc(l, func(s string) bool { return !modelName(s) })
		return "", at, api.ErrName
	}
	var b []byte
	for _, s := range slices.Backward(l) {
		b = append([]byte("/"+s), b...)
	}
	if len(b) >= 1025 {
		return "", 0, api.ErrBig
	}
	if b == nil {
		b = []byte{47}
	}
	return string(b), 0, api.OK
}

func modelSplit(s string) (dir, name string, at int, e api.Errno) {
	l, at, e := modelParse(s)
	if e != api.OK {
		return "", "", at, e
	}
	if len(l) == 0 {
		return "", "", 0, api.ErrExists
	}
	dir, _, _ = modelJoin(l[:len(l)-1])
	return dir, l[len(l)-1], 0, api.OK
}
