package path_test

import (
	"strings"
	"testing"

	"slabvault/api"
)

// P17.2: the document's examples.
func TestParseExamples(t *testing.T) {
	wantParse(t, "/a//./b/", "a", "b")
	wantParse(t, "/")
	refuseParse(t, "a", 0, api.ErrPath)
	refuseParse(t, "/a/../b", 1, api.ErrName)
}

// P17.2: empty parts and "." mean nothing, first, last, between, and alone.
func TestParseOfPartsThatMeanNothing(t *testing.T) {
	for _, blank := range []string{"", "/", "//", "/.", "/./", "/./.", "//.", "/.//", "//././/./", strings.Repeat("/.", 500), strings.Repeat("/", 1000)} {
		wantParse(t, "/"+blank)
		wantParse(t, blank+"/a", "a")
		wantParse(t, "/a"+blank, "a")
		wantParse(t, "/a"+blank+"/b", "a", "b")
		wantParse(t, blank+"/...", "...")
		if len(blank) < 300 {
			wantParse(t, blank+"/a"+blank+"/b"+blank, "a", "b")
		}
	}
	wantParse(t, "/./a", "a")
	wantParse(t, "/a/./b", "a", "b")
	wantParse(t, "/a/.", "a")
	wantParse(t, "/.a/a./...", ".a", "a.", "...")
}

// P17.2: names stand as they are, in order, also those that stand twice.
func TestParseOfNames(t *testing.T) {
	for _, s := range goodNames() {
		wantParse(t, "/"+s, s)
		wantParse(t, "//"+s+"/./", s)
		wantParse(t, chain(s, "a", s), s, "a", s)
		wantParse(t, chain("b", s, "a"), "b", s, "a")
	}
	wantParse(t, "/b/a/b/A/a", "b", "a", "b", "A", "a")
	wantParse(t, "/"+long(1)+"/"+long(64), long(1), long(64))
}

// P17.2: a text that does not begin with '/' is no path, whatever else it is.
func TestParseOfNoPath(t *testing.T) {
	for _, s := range []string{"", "a", ".", "..", "a/", "a/b", "./a", "../a", " /a", "\x00/a", "\\a", "a//b/../c", "\xff/", "\u2215a", "\uff0fa", long(65), long(1024), long(1023) + "/", strings.Repeat("a/", 17), strings.Repeat("../", 300)} {
		refuseParse(t, s, 0, api.ErrPath)
	}
	for x := range 256 {
		if x != '/' {
			refuseParse(t, string([]byte{byte(x)}), 0, api.ErrPath)
			refuseParse(t, string([]byte{byte(x)})+"/a", 0, api.ErrPath)
		}
	}
}

// P17.2: a path has at most MaxPath bytes; one more comes ahead of all other errors, and its place is 0.
func TestParseOfLongTexts(t *testing.T) {
	wantParse(t, strings.Repeat("/", 1024))
	wantParse(t, strings.Repeat("/.", 512))
	wantParse(t, strings.Repeat("/", 1022)+"/a", "a")
	wantParse(t, "/a"+strings.Repeat("/", 1022), "a")
	wantParse(t, chain(wide(1024)...), wide(1024)...)
	for _, n := range []int{1025, 1026, 2048, 1 << 16, 1 << 20} {
		refuseParse(t, strings.Repeat("/", n), 0, api.ErrBig)
		refuseParse(t, strings.Repeat("a", n), 0, api.ErrBig)
		refuseParse(t, "/"+strings.Repeat("a", n-1), 0, api.ErrBig)
		refuseParse(t, "/a/.."+strings.Repeat("/", n-5), 0, api.ErrBig)
		refuseParse(t, "/../a"+strings.Repeat("/", n-5), 0, api.ErrBig)
		refuseParse(t, "/a"+strings.Repeat("/", n-5)+"/..", 0, api.ErrBig)
		refuseParse(t, strings.Repeat("/a", n)[:n], 0, api.ErrBig)
		refuseParse(t, strings.Repeat("/a", n)[1:n+1], 0, api.ErrBig)
		refuseParse(t, strings.Repeat("\x00", n), 0, api.ErrBig)
		refuseParse(t, "/"+strings.Repeat("\x00", n-1), 0, api.ErrBig)
	}
	refuseParse(t, strings.Repeat("a", 1024), 0, api.ErrPath)
	refuseParse(t, "/"+strings.Repeat("a", 1023), 0, api.ErrName)
	refuseParse(t, "/a/.."+strings.Repeat("/", 1019), 1, api.ErrName)
	refuseParse(t, strings.Repeat("/a", 512), 16, api.ErrBig)
	refuseParse(t, "/"+strings.Repeat("é", 512), 0, api.ErrBig)
	refuseParse(t, chain(wide(1025)...), 0, api.ErrBig)
	refuseParse(t, chain(wide(1024)...)+"/", 0, api.ErrBig)
	refuseParse(t, strings.Repeat("/.", 512)+"/", 0, api.ErrBig)
}

// P17.2: a part that is no name is told with how many names stand ahead of it: first, last and between, and parts that mean nothing are not counted.
func TestParseOfWrongParts(t *testing.T) {
	for _, s := range wrongParts() {
		refuseParse(t, "/"+s, 0, api.ErrName)
		refuseParse(t, "/"+s+"/", 0, api.ErrName)
		refuseParse(t, "//./"+s+"/a", 0, api.ErrName)
		refuseParse(t, chain(s, s), 0, api.ErrName)
		refuseParse(t, chain("a", s), 1, api.ErrName)
		refuseParse(t, chain("", "a", ".", "", s, "b"), 1, api.ErrName)
		refuseParse(t, chain("a", "b", s, "c"), 2, api.ErrName)
		refuseParse(t, chain("a", "a", "a", ".", ".", "", s, ".."), 3, api.ErrName)
		for n := range 16 {
			refuseParse(t, chain(numbered(n)...)+chain(s), n, api.ErrName)
			refuseParse(t, chain(numbered(n)...)+chain(s)+chain(numbered(16)...), n, api.ErrName)
			refuseParse(t, chain(numbered(n)...)+chain("..", s), n, api.ErrName)
		}
	}
	refuseParse(t, "/a/../..", 1, api.ErrName)
	refuseParse(t, "/a/b/../../c", 2, api.ErrName)
	refuseParse(t, "/..", 0, api.ErrName)
	refuseParse(t, "/../", 0, api.ErrName)
	refuseParse(t, "//..", 0, api.ErrName)
	wantParse(t, "/.../..a/a..", "...", "..a", "a..")
}

// P17.2: there are at most MaxParts names; the place of one more is MaxParts.
func TestParseOfManyNames(t *testing.T) {
	for n := range 17 {
		wantParse(t, "/"+strings.Repeat("a/", n), times(n, "a")...)
		wantParse(t, "/"+chain(numbered(n)...)+"//././", numbered(n)...)
	}
	sixteen := chain(numbered(16)...)
	for _, blank := range []string{"/", "/.", "//", "/./", "/././.", strings.Repeat("/", 800), strings.Repeat("/.", 400)} {
		wantParse(t, sixteen+blank, numbered(16)...)
		refuseParse(t, sixteen+blank+"/a", 16, api.ErrBig)
		refuseParse(t, sixteen+blank+"/..", 16, api.ErrName)
	}
	wantParse(t, strings.Repeat("/a/.//", 16), times(16, "a")...)
	for n := 17; n < 200; n++ {
		refuseParse(t, strings.Repeat("/a", n), 16, api.ErrBig)
		refuseParse(t, strings.Repeat("/./a", n), 16, api.ErrBig)
	}
	refuseParse(t, chain(numbered(17)...), 16, api.ErrBig)
	refuseParse(t, chain(numbered(40)...), 16, api.ErrBig)
}

// P17.2: of two faults the one further left is told, behind MaxParts names too.
func TestParseTellsTheFirstFault(t *testing.T) {
	sixteen := chain(numbered(16)...)
	for _, s := range wrongParts() {
		refuseParse(t, sixteen+"/"+s, 16, api.ErrName)
		refuseParse(t, sixteen+"/./"+s+"/a", 16, api.ErrName)
		refuseParse(t, sixteen+"/a/"+s, 16, api.ErrBig)
		refuseParse(t, "/"+s+sixteen+"/a", 0, api.ErrName)
		refuseParse(t, "/a/"+s+sixteen+"/a", 1, api.ErrName)
	}
	refuseParse(t, strings.Repeat("/a", 16)+"/../a", 16, api.ErrName)
	refuseParse(t, strings.Repeat("/a", 15)+"/../a/a", 15, api.ErrName)
	refuseParse(t, strings.Repeat("a/", 17), 0, api.ErrPath)
	refuseParse(t, "a/..", 0, api.ErrPath)
}

// P17.2: each byte may stand in a part; 0 alone makes it no name, and '/' parts it.
func TestParseOfEachByte(t *testing.T) {
	for x := range 256 {
		s := string([]byte{'a', byte(x), 'b'})
		switch x {
		case 0:
			refuseParse(t, "/c/"+s, 1, api.ErrName)
		case '/':
			wantParse(t, "/c/"+s, "c", "a", "b")
		default:
			wantParse(t, "/c/"+s, "c", s)
		}
	}
}
