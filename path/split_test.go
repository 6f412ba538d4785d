package path_test

import (
	"strings"
	"testing"

	"slabvault/api"
)

// P17.4: the document's examples.
func TestSplitExamples(t *testing.T) {
	wantSplit(t, "/a/b/", "/a", "b")
	refuseSplit(t, "/.", 0, api.ErrExists)
}

// P17.4: of one name the first part is the root's path.
func TestSplitOfOneName(t *testing.T) {
	for _, s := range goodNames() {
		wantSplit(t, "/"+s, "/", s)
		wantSplit(t, "//./"+s+"/.//", "/", s)
	}
}

// P17.4: what stands ahead of the last name is told without parts that mean nothing, and so is what stands behind it.
func TestSplitOfNames(t *testing.T) {
	for _, s := range goodNames() {
		wantSplit(t, chain("a", s), "/a", s)
		wantSplit(t, chain(s, "a"), "/"+s, "a")
		wantSplit(t, chain(".", s, "", "b", ".", "a", "", "."), chain(s, "b"), "a")
	}
	for n := 1; n <= 16; n++ {
		l := numbered(n)
		dir := "/"
		if n > 1 {
			dir = chain(l[:n-1]...)
		}
		wantSplit(t, chain(l...), dir, l[n-1])
		wantSplit(t, "//."+strings.ReplaceAll(chain(l...), "/", "//./")+"/././/", dir, l[n-1])
	}
	wantSplit(t, "/a/a/a", "/a/a", "a")
	wantSplit(t, strings.Repeat("/"+long(63), 16), strings.Repeat("/"+long(63), 15), long(63))
	wantSplit(t, "/a"+strings.Repeat("/", 1020)+"/b", "/a", "b")
	wantSplit(t, "/a/b"+strings.Repeat("/", 1020), "/a", "b")
}

// P17.4: where there is no name, it is ErrExists, and 0.
func TestSplitOfTheRoot(t *testing.T) {
	for _, s := range []string{"/", "//", "/.", "/./", "//.", "/./.", "/././/", strings.Repeat("/", 1024), strings.Repeat("/.", 512)} {
		refuseSplit(t, s, 0, api.ErrExists)
	}
}

// P17.4: Parse's error, and its place, also where no name stands ahead of what is wrong.
func TestSplitOfWrongTexts(t *testing.T) {
	refuseSplit(t, "", 0, api.ErrPath)
	refuseSplit(t, "a", 0, api.ErrPath)
	refuseSplit(t, "a/b", 0, api.ErrPath)
	refuseSplit(t, ".", 0, api.ErrPath)
	refuseSplit(t, strings.Repeat("/", 1025), 0, api.ErrBig)
	refuseSplit(t, strings.Repeat("a", 1025), 0, api.ErrBig)
	refuseSplit(t, "/..", 0, api.ErrName)
	refuseSplit(t, "/./..", 0, api.ErrName)
	refuseSplit(t, "/a/b/..", 2, api.ErrName)
	refuseSplit(t, "/a/../b", 1, api.ErrName)
	refuseSplit(t, strings.Repeat("/a", 17), 16, api.ErrBig)
	refuseSplit(t, strings.Repeat("/a", 16)+"/..", 16, api.ErrName)
}
