package path_test

import (
	"slices"
	"strings"
	"testing"

	"slabvault/api"
	"slabvault/path"
)

// likeModel holds all that the package answers of a text against the second reading.
func likeModel(t *testing.T, s string) {
	t.Helper()
	wantName(t, s, modelName(s))
	l, at, e := path.Parse(s)
	if want, place, fault := modelParse(s); at != place || e != fault || !slices.Equal(l, want) {
		t.Errorf("Parse(%s) = %s, %d, %d, not %s, %d, %d", brief(s), listed(l), at, e, listed(want), place, fault)
	}
	dir, name, at, e := path.Split(s)
	if d, n, place, fault := modelSplit(s); dir != d || name != n || at != place || e != fault {
		t.Errorf("Split(%s) = %s, %s, %d, %d, not %s, %s, %d, %d", brief(s), brief(dir), brief(name), at, e, brief(d), brief(n), place, fault)
	}
}

// joinLikeModel holds what Join answers against the second reading.
func joinLikeModel(t *testing.T, l []string) {
	t.Helper()
	s, at, e := path.Join(l)
	if want, place, fault := modelJoin(l); s != want || at != place || e != fault {
		t.Errorf("Join(%s) = %s, %d, %d, not %s, %d, %d", listed(l), brief(s), at, e, brief(want), place, fault)
	}
}

// P17.1, P17.2, P17.4: each text of few bytes, of few kinds.
func TestEachShortText(t *testing.T) {
	eachText("/.a\x00", 8, func(s string) { likeModel(t, s) })
	eachText("/.", 13, func(s string) { likeModel(t, "/"+s) })
}

// P17.3: each list of few texts, of few kinds.
func TestEachShortList(t *testing.T) {
	kinds := texts("", ".", "..", "...", "a", "b/", "/", "\x00", long(64), long(65))
	lists := [][]string{nil}
	for range 4 {
		var longer [][]string
		for _, l := range lists {
			joinLikeModel(t, l)
			for _, s := range kinds {
				longer = append(longer, append(slices.Clone(l), s))
			}
		}
		lists = longer
	}
	for _, l := range lists {
		joinLikeModel(t, l)
	}
}

// P17.2, P17.3, P17.4: thrown texts and lists, good and bad.
func TestThrownTexts(t *testing.T) {
	d := dice(1)
	some := append(noNames(), goodNames()...)
	for range 4000 {
		l := d.names(d.below(19))
		for range d.below(3) {
			if len(l) > 0 {
				l[d.below(len(l))] = d.pick(some)
			}
		}
		joinLikeModel(t, l)
		s := d.loose(l)
		likeModel(t, s)
		likeModel(t, s[d.below(len(s)):])
		likeModel(t, s[:d.below(len(s)+1)])
		b := []byte(s)
		b[d.below(len(b))] = "/.\x00a"[d.below(4)]
		likeModel(t, string(b))
	}
}

// P17.2, P17.3: names of all sorts, next to both bounds: of MaxPath bytes, and of MaxParts names.
func TestThrownTextsAtTheBounds(t *testing.T) {
	d := dice(2)
	for range 400 {
		l := d.names(14 + d.below(5))
		for i := range l {
			if d.below(4) > 0 {
				l[i] = long(60 + d.below(5))
			}
		}
		joinLikeModel(t, l)
		s := chain(l...)
		likeModel(t, s)
		for n := 1022; n <= 1027; n++ {
			likeModel(t, s[:min(n, len(s))])
			likeModel(t, s+strings.Repeat("/", max(0, n-len(s))))
			likeModel(t, strings.Repeat("/", max(0, n-len(s)))+s)
		}
	}
}

// back holds of names that have a path what Parse of Join is.
func back(t *testing.T, l []string) {
	t.Helper()
	s, at, e := path.Join(l)
	if e != api.OK || at != 0 {
		t.Errorf("Join(%s) = %d, %d", listed(l), at, e)
		return
	}
	wantParse(t, s, l...)
	if n := len(l); n > 0 {
		dir, _, _ := path.Join(l[:n-1])
		wantSplit(t, s, dir, l[n-1])
	}
}

// P17.5: Parse of Join is the names.
func TestParseOfJoin(t *testing.T) {
	back(t, nil)
	for _, s := range goodNames() {
		back(t, texts(s))
		back(t, texts("a", s, "b"))
		back(t, times(16, s[:min(63, len(s))]))
	}
	for n := range 17 {
		back(t, numbered(n))
	}
	for n := 2; n <= 1024; n++ {
		back(t, wide(n))
	}
	d := dice(3)
	for range 3000 {
		l := d.names(d.below(17))
		for len(chain(l...)) > 1024 {
			l = l[1:]
		}
		back(t, l)
	}
}

// P17.5: Join of Parse is no longer than the path, and parsed the same.
func TestJoinOfParse(t *testing.T) {
	again := func(s string) {
		l, _, e := path.Parse(s)
		if e != api.OK {
			return
		}
		short, at, e := path.Join(l)
		if e != api.OK || at != 0 || len(short) > len(s) {
			t.Errorf("Join of Parse of %s = %s, %d, %d", brief(s), brief(short), at, e)
		}
		wantParse(t, short, l...)
		wantJoin(t, l, short)
	}
	eachText("/.a", 9, func(s string) { again("/" + s) })
	again(strings.Repeat("/"+long(63), 16))
	again(strings.Repeat("/", 1024))
	d := dice(4)
	for range 3000 {
		again(d.loose(d.names(d.below(17))))
	}
}

// together holds what Parse answers of two paths of these names, one behind the other.
func together(t *testing.T, first, second string) {
	t.Helper()
	l, _, e := path.Parse(first)
	m, _, fault := path.Parse(second)
	if e != api.OK || fault != api.OK || len(first)+len(second) > 1024 {
		return
	}
	both := append(slices.Clone(l), m...)
	if len(both) > 16 {
		refuseParse(t, first+second, 16, api.ErrBig)
		return
	}
	wantParse(t, first+second, both...)
}

// P17.6: a path behind another one has the names of both.
func TestPathsTogether(t *testing.T) {
	wantParse(t, "/a"+"/b", "a", "b")
	wantParse(t, "/"+"/b", "b")
	wantParse(t, "/a"+"/", "a")
	wantParse(t, "/"+"/")
	paths := texts("/", "//", "/.", "/./", "/a", "/a/", "/.a", "/a/.", "/a/b", "//a/./b//", "/...", "/"+long(64), "/..", "")
	for _, first := range paths {
		for _, second := range paths {
			together(t, first, second)
		}
	}
	d := dice(5)
	for range 4000 {
		together(t, d.loose(d.names(d.below(9))), d.loose(d.names(d.below(9))))
	}
}

// P17.6: just MaxParts names together are a path, one more are too many; so are more than MaxPath bytes.
func TestManyPathsTogether(t *testing.T) {
	for n := range 17 {
		for m := range 17 {
			first, second := "/"+strings.Repeat("a/", n), strings.Repeat("/b", m)+"/"
			if n+m <= 16 {
				wantParse(t, first+second, append(times(n, "a"), times(m, "b")...)...)
			} else {
				refuseParse(t, first+second, 16, api.ErrBig)
			}
		}
	}
	for n := 1; n < 1024; n++ {
		wantParse(t, strings.Repeat("/", n)+strings.Repeat("/", 1024-n))
		refuseParse(t, strings.Repeat("/", n)+strings.Repeat("/", 1025-n), 0, api.ErrBig)
	}
}
