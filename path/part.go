package path

import (
	"iter"
	"strings"

	"slabvault/api"
)

// parts tells the parts of a text that begins with '/', from the left.
func parts(s string) iter.Seq[string] {
	return func(yield func(string) bool) {
		part, rest, more := "", s[1:], true
		for more {
			part, rest, more = strings.Cut(rest, "/")
			if !yield(part) {
				return
			}
		}
	}
}

// wrongText tells what is wrong with a text, whatever its parts are.
func wrongText(s string) error {
	if len(s) > api.MaxPath {
		return fault{Errno: api.ErrBig}
	}
	if !strings.HasPrefix(s, "/") {
		return fault{Errno: api.ErrPath}
	}
	return nil
}

// wrongPart tells what is wrong with a part that should be a name, behind so many names.
func wrongPart(part string, ahead int) error {
	if !Name(part) {
		return fault{Errno: api.ErrName, ahead: ahead}
	}
	if ahead == api.MaxParts {
		return fault{Errno: api.ErrBig, ahead: ahead}
	}
	return nil
}

// wrongNames tells what is wrong with names that should be joined.
func wrongNames(l []string) error {
	if len(l) > api.MaxParts {
		return fault{Errno: api.ErrBig}
	}
	length := 0
	for i, name := range l {
		if !Name(name) {
			return fault{Errno: api.ErrName, ahead: i}
		}
		length += 1 + len(name)
	}
	if length > api.MaxPath {
		return fault{Errno: api.ErrBig}
	}
	return nil
}
