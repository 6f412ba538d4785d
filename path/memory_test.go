package path_test

import (
	"slices"
	"strings"
	"testing"

	"slabvault/api"
	"slabvault/path"
)

// lists are names of all sorts, good and bad.
func lists() [][]string {
	l := [][]string{nil, {}, {"a"}, {"a", "b"}, {"a", ""}, {".."}, numbered(15), numbered(16), numbered(17), times(16, long(63)), times(16, long(64)), times(40, "a")}
	for _, s := range append(goodNames(), noNames()...) {
		l = append(l, texts(s), texts("a", s, "b"))
	}
	return l
}

// samples are texts of all sorts, good and bad.
func samples() []string {
	out := texts("", "/", "a", "/a//./b/", "/a/../b", strings.Repeat("/", 1024), strings.Repeat("/", 1025), strings.Repeat("/a", 17), strings.Repeat("/a", 16)+"/..")
	for _, l := range lists() {
		out = append(out, chain(l...))
	}
	return out
}

// hedged tells texts with spare room in which other ones stand, and that same memory whole.
func hedged(l []string) (part, room []string) {
	room = append(slices.Clone(l), "spare", "..", "", "a/b", long(65))
	return room[:len(l)], room
}

// Rules 4 and 7: what is handed in is not changed, its spare room neither, and what stands there is not read.
func TestGivenNamesAreLeftAlone(t *testing.T) {
	for _, l := range lists() {
		part, room := hedged(l)
		before := slices.Clone(room)
		want, place, fault := path.Join(slices.Clone(l))
		if s, at, e := path.Join(part); s != want || at != place || e != fault {
			t.Errorf("Join(%s) with spare room = %s, %d, %d, not %s, %d, %d", listed(l), brief(s), at, e, brief(want), place, fault)
		}
		if !slices.Equal(room, before) {
			t.Errorf("Join(%s) changed what was handed in", listed(l))
		}
	}
}

// Rule 4: names that are told are new memory, spare room too: what is written there is not seen in what is told again.
func TestToldNamesAreNew(t *testing.T) {
	for _, s := range samples() {
		first, _, _ := path.Parse(s)
		second, _, _ := path.Parse(s)
		kept := slices.Clone(second)
		for _, x := range second[len(second):cap(second)] {
			if x != "" {
				t.Fatalf("Parse(%s) hands out what stood behind a length", brief(s))
			}
		}
		first = first[:cap(first)]
		for i := range first {
			first[i] = "other"
		}
		if !slices.Equal(second, kept) {
			t.Errorf("Parse(%s) tells one memory twice", brief(s))
		}
		if third, _, _ := path.Parse(s); !slices.Equal(third, kept) {
			t.Errorf("Parse(%s) keeps the names that it told", brief(s))
		}
	}
}

// Rule 4: a path that is told does not follow the list that it was made of.
func TestToldPathsAreKept(t *testing.T) {
	l := texts("a", "b")
	s, _, _ := path.Join(l)
	l[0], l[1] = "c", ".."
	if s != "/a/b" {
		t.Errorf("Join(a b) became %s", brief(s))
	}
	refuseJoin(t, l, 1, api.ErrName)
}

// Rule 5: a call keeps nothing: what went ahead of it, refused or not, is not seen in it.
func TestCallsKeepNothing(t *testing.T) {
	for range 2 {
		for _, s := range samples() {
			likeModel(t, s)
		}
		for _, l := range lists() {
			joinLikeModel(t, l)
			for _, ahead := range [][]string{{"a"}, {"a", ".."}, numbered(17)} {
				path.Join(ahead)
				path.Split(chain(ahead...))
				joinLikeModel(t, l)
			}
		}
	}
}
