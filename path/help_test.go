package path_test

import (
	"fmt"
	"slices"
	"strings"
	"testing"

	"slabvault/api"
	"slabvault/path"
)

// long tells a name of so many bytes.
func long(n int) string { return strings.Repeat("n", n) }

// texts tells some texts as a list.
func texts(l ...string) []string { return l }

// times tells one text so often.
func times(n int, s string) []string {
	var l []string
	for range n {
		l = append(l, s)
	}
	return l
}

// numbered tells so many names, no two of which are alike.
func numbered(n int) []string {
	var l []string
	for i := range n {
		l = append(l, fmt.Sprintf("name%d", i))
	}
	return l
}

// chain tells texts as a path has them, names or not.
func chain(l ...string) string {
	out := ""
	for _, s := range l {
		out += "/" + s
	}
	return out
}

// wide tells names, as few as there can be, whose path has just so many bytes.
func wide(length int) []string {
	var l []string
	for length > api.MaxName+1 {
		n := min(api.MaxName, length-3) // what is left over has room for one more name
		l = append(l, long(n))
		length -= n + 1
	}
	return append(l, long(length-1))
}

// goodNames are names of all sorts, the shortest and the longest that may be among them.
func goodNames() []string {
	l := []string{"a", "-", " ", "  ", "...", "....", ".a", "a.", "..a", "a..", ". ", " .", "a b", ".\t", "\\", "a\\b", "\n", "\x01", "\x1f", "\x7f", "\x80", "\xff", "\xc0\xaf", "\xed\xa0\x80", "a\xffb", "\ufeff", "é", "日本", "\u2024", "\uff0e", "\u2215", "*", "%2f", "~", "CON"}
	for _, n := range []int{1, 2, 63, 64} {
		l = append(l, long(n), strings.Repeat(".", n+2)[:max(3, n)], strings.Repeat("\xff", n), strings.Repeat(" ", n))
	}
	return append(l, strings.Repeat("é", 32), strings.Repeat("日", 21)+"a")
}

// wrongParts are parts of a text that are no names, nor do they mean nothing.
func wrongParts() []string {
	l := []string{"..", "\x00", "\x00a", "a\x00", "a\x00b", ".\x00", "..\x00", "\x00..", long(65), long(66), long(128), long(300), strings.Repeat(".", 65), strings.Repeat("\xff", 65), strings.Repeat("é", 33), strings.Repeat("日", 22)}
	for _, at := range []int{0, 1, 7, 8, 9, 31, 62, 63} {
		l = append(l, long(at)+"\x00"+long(63-at))
	}
	return l
}

// noNames are texts that are no names, those among them that mean nothing as parts, and those with '/', that no part is.
func noNames() []string {
	l := append(wrongParts(), "", ".", "/", "//", "/a", "a/", "a/b", "./", "/.", "../", "/..", "a/..", "/\x00", long(31)+"/"+long(32), long(63)+"/", "/"+long(63))
	return append(l, long(64)+"/", long(1000)+"/"+long(1000))
}

// wantName holds what Name answers.
func wantName(t *testing.T, s string, want bool) {
	t.Helper()
	if got := path.Name(s); got != want {
		t.Errorf("Name(%s) = %t", brief(s), got)
	}
}

// wantParse holds that Parse answers these names.
func wantParse(t *testing.T, s string, want ...string) {
	t.Helper()
	if got, at, e := path.Parse(s); e != api.OK || at != 0 || !slices.Equal(got, want) {
		t.Errorf("Parse(%s) = %s, %d, %d, not %s", brief(s), listed(got), at, e, listed(want))
	}
}

// refuseParse holds that Parse answers an error and its place, and nothing beside them; Split answers the same.
func refuseParse(t *testing.T, s string, place int, want api.Errno) {
	t.Helper()
	if got, at, e := path.Parse(s); e != want || at != place || len(got) != 0 {
		t.Errorf("Parse(%s) = %s, %d, %d, not error %d at %d", brief(s), listed(got), at, e, want, place)
	}
	refuseSplit(t, s, place, want)
}

// wantJoin holds that Join answers this path.
func wantJoin(t *testing.T, l []string, want string) {
	t.Helper()
	if got, at, e := path.Join(l); e != api.OK || at != 0 || got != want {
		t.Errorf("Join(%s) = %s, %d, %d, not %s", listed(l), brief(got), at, e, brief(want))
	}
}

// refuseJoin holds that Join answers an error and its place, and nothing beside them.
func refuseJoin(t *testing.T, l []string, place int, want api.Errno) {
	t.Helper()
	if got, at, e := path.Join(l); e != want || at != place || got != "" {
		t.Errorf("Join(%s) = %s, %d, %d, not error %d at %d", listed(l), brief(got), at, e, want, place)
	}
}

// wantSplit holds that Split answers these two.
func wantSplit(t *testing.T, s, dir, name string) {
	t.Helper()
	if d, n, at, e := path.Split(s); e != api.OK || at != 0 || d != dir || n != name {
		t.Errorf("Split(%s) = %s, %s, %d, %d, not %s, %s", brief(s), brief(d), brief(n), at, e, brief(dir), brief(name))
	}
}

// refuseSplit holds that Split answers an error and its place, and nothing beside them.
func refuseSplit(t *testing.T, s string, place int, want api.Errno) {
	t.Helper()
	if d, n, at, e := path.Split(s); e != want || at != place || d != "" || n != "" {
		t.Errorf("Split(%s) = %s, %s, %d, %d, not error %d at %d", brief(s), brief(d), brief(n), at, e, want, place)
	}
}

// brief tells a text, however long it is.
func brief(s string) string {
	if len(s) > 60 {
		return fmt.Sprintf("%d bytes, %q..", len(s), s[:60])
	}
	return fmt.Sprintf("%q", s)
}

// listed tells texts, however many they are.
func listed(l []string) string {
	out := fmt.Sprintf("%d:", len(l))
	for i, s := range l {
		if i == 20 {
			return out + " .."
		}
		out += " " + brief(s)
	}
	return out
}

// dice tells numbers that look thrown, and are the same in each run.
type dice uint64

func (d *dice) below(n int) int {
	*d = *d*6364136223846793005 + 1442695040888963407
	return int(uint64(*d)>>33) % n
}

// pick tells one of some texts.
func (d *dice) pick(l []string) string { return l[d.below(len(l))] }

// name tells a thrown name, of any length that there may be.
func (d *dice) name() string {
	for {
		n := 1 + d.below(api.MaxName)
		if d.below(2) == 0 {
			n = 1 + d.below(6)
		}
		b := make([]byte, n)
		for i := range b {
			b[i] = byte(d.below(256))
		}
		if s := string(b); modelName(s) {
			return s
		}
	}
}

// names tells so many thrown names.
func (d *dice) names(n int) []string {
	var l []string
	for range n {
		l = append(l, d.name())
	}
	return l
}

// loose tells a path of names with parts thrown in that mean nothing.
func (d *dice) loose(l []string) string {
	out := ""
	for _, s := range l {
		out += d.blank() + "/" + s
	}
	if out == "" {
		out = "/"
	}
	return out + d.blank()
}

// blank tells a few parts that mean nothing, or none.
func (d *dice) blank() string {
	out := ""
	for range d.below(4) - 1 {
		out += d.pick([]string{"/", "/."})
	}
	return out
}
