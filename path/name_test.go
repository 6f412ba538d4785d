package path_test

import (
	"strings"
	"testing"
)

// P17.1: the document's examples.
func TestNameExamples(t *testing.T) {
	wantName(t, ".", false)
	wantName(t, "a/b", false)
	wantName(t, "", false)
	wantName(t, "a", true)
	wantName(t, "...", true)
}

// P17.1: names of all sorts are names; dots are ruled out as one and as two alone.
func TestNames(t *testing.T) {
	for _, s := range goodNames() {
		wantName(t, s, true)
	}
	for n := 3; n <= 64; n++ {
		wantName(t, strings.Repeat(".", n), true)
	}
	wantName(t, "..", false)
}

// P17.1: what is no name by DOC.md.
func TestNoNames(t *testing.T) {
	for _, s := range noNames() {
		wantName(t, s, false)
	}
}

// P17.1: a name has 1 to MaxName bytes, not characters.
func TestNameOfEachLength(t *testing.T) {
	for n := range 200 {
		wantName(t, strings.Repeat("a", n), 1 <= n && n <= 64)
		wantName(t, strings.Repeat("\xfe", n), 1 <= n && n <= 64)
		wantName(t, strings.Repeat("é", n), 1 <= n && n <= 32)
		wantName(t, strings.Repeat("日", n), 1 <= n && n <= 21)
		wantName(t, strings.Repeat("\U0001f600", n), 1 <= n && n <= 16)
	}
	wantName(t, strings.Repeat("a", 1<<20), false)
}

// P17.1: each byte but 0 and '/' may stand anywhere in a name.
func TestNameOfEachByte(t *testing.T) {
	for x := range 256 {
		b := string([]byte{byte(x)})
		wantName(t, b, x != 0 && x != '/' && x != '.')
		wantName(t, b+b, x != 0 && x != '/' && x != '.')
		wantName(t, b+b+b, x != 0 && x != '/')
		for _, n := range []int{1, 2, 8, 20, 64} {
			for at := range n {
				wantName(t, strings.Repeat("a", at)+b+strings.Repeat("a", n-1-at), x != 0 && x != '/' && (n > 1 || x != '.'))
			}
		}
	}
}

// P17.1: against the second reading: each text of two bytes, and each longer one of a few.
func TestNameOfEachShortText(t *testing.T) {
	for x := range 256 {
		for y := range 256 {
			s := string([]byte{byte(x), byte(y)})
			wantName(t, s, modelName(s))
		}
	}
	eachText("./a\x00\xff", 6, func(s string) { wantName(t, s, modelName(s)) })
}

// eachText goes through each text of at most so many bytes, of some kinds.
func eachText(kinds string, most int, do func(s string)) {
	do("")
	if most == 0 {
		return
	}
	for i := range kinds {
		head := kinds[i : i+1]
		eachText(kinds, most-1, func(s string) { do(head + s) })
	}
}
