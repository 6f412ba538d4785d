package path_test

import (
	"strings"
	"testing"

	"slabvault/api"
)

// P17.3: the document's examples.
func TestJoinExamples(t *testing.T) {
	wantJoin(t, texts("a", "b"), "/a/b")
	refuseJoin(t, texts("a", ""), 1, api.ErrName)
	wantJoin(t, nil, "/")
	wantJoin(t, []string{}, "/")
}

// P17.3: '/' stands ahead of each name, and nothing behind the last one.
func TestJoinOfNames(t *testing.T) {
	for _, s := range goodNames() {
		wantJoin(t, texts(s), "/"+s)
		wantJoin(t, texts(s, "a", s), "/"+s+"/a/"+s)
		wantJoin(t, texts("b", s), "/b/"+s)
	}
	wantJoin(t, texts("b", "a", "b", "A", "..."), "/b/a/b/A/...")
	for n := 1; n <= 16; n++ {
		wantJoin(t, times(n, "a"), strings.Repeat("/a", n))
		wantJoin(t, numbered(n), chain(numbered(n)...))
	}
}

// P17.3: what is no name is told by its number, from 0 on, the first one alone.
func TestJoinOfNoNames(t *testing.T) {
	for _, s := range noNames() {
		refuseJoin(t, texts(s), 0, api.ErrName)
		refuseJoin(t, texts(s, s), 0, api.ErrName)
		refuseJoin(t, texts("a", s), 1, api.ErrName)
		refuseJoin(t, texts("a", s, "b", ".."), 1, api.ErrName)
		for at := range 16 {
			l := numbered(16)
			l[at] = s
			refuseJoin(t, l, at, api.ErrName)
			refuseJoin(t, l[:at+1], at, api.ErrName)
			l[15] = ""
			refuseJoin(t, l, at, api.ErrName)
		}
	}
}

// P17.3: there are at most MaxParts names; more are ErrBig and 0, also where some are no names.
func TestJoinOfManyNames(t *testing.T) {
	wantJoin(t, numbered(16), chain(numbered(16)...))
	for _, n := range []int{17, 18, 32, 300, 1 << 16} {
		refuseJoin(t, times(n, "a"), 0, api.ErrBig)
		refuseJoin(t, times(n, ""), 0, api.ErrBig)
		refuseJoin(t, times(n, "."), 0, api.ErrBig)
		for _, at := range []int{0, 1, 15, 16, n - 1} {
			l := times(n, "a")
			l[at] = ".."
			refuseJoin(t, l, 0, api.ErrBig)
			l[at] = ""
			refuseJoin(t, l, 0, api.ErrBig)
		}
	}
}

// P17.3: a path has at most MaxPath bytes; what would have more is ErrBig and 0, but behind ErrName.
func TestJoinOfLongNames(t *testing.T) {
	for n := 1; n <= 15; n++ {
		wantJoin(t, times(n, long(64)), strings.Repeat("/"+long(64), n))
	}
	refuseJoin(t, times(16, long(64)), 0, api.ErrBig)
	wantJoin(t, times(16, long(63)), strings.Repeat("/"+long(63), 16)) // just MaxPath bytes
	for n := 2; n <= 1100; n++ {
		if l := wide(n); n <= 1024 {
			wantJoin(t, l, chain(l...))
		} else {
			refuseJoin(t, l, 0, api.ErrBig)
		}
	}
	for at := range 16 {
		l := times(16, long(63))
		l[at] = long(64) // one byte more
		refuseJoin(t, l, 0, api.ErrBig)
		l[15-at/15] = ".."
		refuseJoin(t, l, 15-at/15, api.ErrName)
		l = times(16, long(63))
		l[at] = long(62)
		wantJoin(t, l, chain(l...))
	}
	for at := range 16 {
		l := times(16, long(64))
		l[at] = long(65)
		refuseJoin(t, l, at, api.ErrName)
	}
	refuseJoin(t, times(16, strings.Repeat("é", 32)), 0, api.ErrBig) // bytes count, not characters
	wantJoin(t, times(15, strings.Repeat("é", 32)), strings.Repeat("/"+strings.Repeat("é", 32), 15))
	refuseJoin(t, texts(long(1024)), 0, api.ErrName)
	refuseJoin(t, texts("a", long(1<<20)), 1, api.ErrName)
	refuseJoin(t, append(times(15, long(64)), strings.Repeat("é", 33)), 15, api.ErrName)
}
