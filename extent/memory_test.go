package extent_test

import (
	"slices"
	"testing"

	"slabvault/api"
	"slabvault/extent"
)

// spare is how many elements stand behind the length of what is handed in.
const spare = 16

// mark stands there, and nowhere else.
var mark = api.Extent{At: 77777, Size: 77777}

// guarded tells a list with spare room, and that same memory whole.
func guarded[E any](l []E, fill E) (part, whole []E) {
	whole = slices.Concat(l, slices.Repeat([]E{fill}, spare))
	return whole[:len(l)], whole
}

// scribble writes all over a list, spare room too.
func scribble[E any](l []E, with E) {
	l = l[:cap(l)]
	for i := range l {
		l[i] = with
	}
}

// wantOwnMemory asks that a call leaves what it is given alone, that what it answers shares no memory with that, and that two answers share none with each other.
func wantOwnMemory[E, A comparable](t *testing.T, name string, given []E, fill E, dirt A, call func(l []E) []A) {
	t.Helper()
	part, whole := guarded(given, fill)
	before := slices.Clone(whole)
	first := call(part)
	if !slices.Equal(whole, before) {
		t.Errorf("%s changed what it was given", name)
	}
	kept, second := slices.Clone(first), call(part)
	if !slices.Equal(first, second) {
		t.Errorf("%s answers %v, then %v", name, first, second)
	}
	scribble(first, dirt)
	if !slices.Equal(whole, before) {
		t.Errorf("%s answers memory that it was given", name)
	}
	if !slices.Equal(second, kept) {
		t.Errorf("%s answers one memory twice", name)
	}
	scribble(whole, fill)
	if !slices.Equal(second, kept) {
		t.Errorf("%s answers memory that it was given", name)
	}
}

// listCalls are all calls that make a list of one, as such.
func listCalls() map[string]func(l []api.Extent) []api.Extent {
	calls := map[string]func(l []api.Extent) []api.Extent{
		"Normal": func(l []api.Extent) []api.Extent { out, _ := extent.Normal(l); return out },
		"Rest":   func(l []api.Extent) []api.Extent { out, _ := extent.Rest(l, 1000); return out },
	}
	for name, n := range map[string]int{"Take 1": 1, "Take 2": 2, "Take 5": 5, "Take 6": 6, "Take too many": 1 << 20, "Take none": 0} {
		calls[name] = func(l []api.Extent) []api.Extent { _, out, _ := extent.Take(l, n); return out }
	}
	for name, x := range map[string]api.Extent{
		"Give of none": {}, "Give ahead": {At: 0, Size: 1}, "Give between": {At: 14, Size: 1}, "Give a gap": {At: 12, Size: 8},
		"Give behind": {At: 500, Size: 3}, "Give again": {At: 10, Size: 1}, "Give a wrong one": {At: -1},
	} {
		calls[name] = func(l []api.Extent) []api.Extent { out, _ := extent.Give(l, x); return out }
	}
	return calls
}

// givenLists are good ones and others, long enough for spare room of many sizes.
func givenLists() [][]api.Extent {
	return [][]api.Extent{
		nil, {}, list(10, 2), list(10, 5), list(10, 2, 20, 5, 30, 6), list(20, 5, 10, 2), list(10, 2, 12, 8), list(10, 9, 12, 3, 12, 0), list(3, 0),
		list(10, 2, -1, 5), comb(40, 10, 20, 5), comb(100, 2, 7, 6), comb(100, 900, -8, 9), comb(api.MaxItems+1, 0, 2, 1),
	}
}

// Rule 4
func TestListsAreNewMemory(t *testing.T) {
	for _, given := range givenLists() {
		for name, call := range listCalls() {
			wantOwnMemory(t, name, given, mark, mark, call)
		}
		wantOwnMemory(t, "Bytes", given, mark, 0xee, func(l []api.Extent) []byte { out, _ := extent.Bytes(l); return out })
	}
}

// Rule 4
func TestLoadedListsAreNewMemory(t *testing.T) {
	load := func(b []byte) []api.Extent { out, _ := extent.Load(b); return out }
	for _, l := range givenLists() {
		b := sealed(plainOf(l))
		wantOwnMemory(t, "Load", b, 0xee, mark, load)
		wantOwnMemory(t, "Load of bytes that are not sealed", b[:len(b)-1], 0xee, mark, load)
	}
	wantOwnMemory(t, "Load of few bytes", []byte{1, 2}, 0xee, mark, load)
}

// Rule 4: a list's sums and checks change nothing of it either.
func TestQuestionsChangeNothing(t *testing.T) {
	for _, given := range givenLists() {
		part, whole := guarded(given, mark)
		before := slices.Clone(whole)
		extent.Good(part, 1000)
		extent.Good(part, -1)
		extent.Total(part)
		extent.Meets(part)
		if !slices.Equal(whole, before) {
			t.Errorf("%v has become %v", shown(before), shown(whole))
		}
	}
}

// Rule 7: what lies behind the length is neither read nor handed out.
func TestNothingBehindTheLengthIsRead(t *testing.T) {
	for _, behind := range []api.Extent{{At: 12, Size: 3}, {At: 10, Size: 2}, {At: -1, Size: -1}, {At: 500, Size: 100}, {At: 900, Size: 200}} {
		for _, given := range givenLists() {
			part, _ := guarded(given, behind)
			for name, call := range listCalls() {
				got, want := call(part), call(slices.Clip(slices.Clone(given)))
				if !slices.Equal(got, want) {
					t.Errorf("%s of %v: %v; want %v", name, shown(given), shown(got), shown(want))
				}
				if slices.Contains(got[len(got):cap(got)], behind) {
					t.Errorf("%s hands out what stood behind the length", name)
				}
			}
			if extent.Good(part, 1000) != extent.Good(given, 1000) || extent.Total(part) != extent.Total(given) || extent.Meets(part) != extent.Meets(given) {
				t.Errorf("%v: Good, Total or Meets", shown(given))
			}
		}
	}
	whole := sealed(plainOf(list(0, 2, 8, 2)))
	wantLoad(t, whole[:23], nil, api.ErrCorrupt)
	wantLoad(t, append(slices.Clone(whole), 1, 2, 3)[:24], list(0, 2, 8, 2), api.OK)
}

// Rule 5: what is answered hangs on no call ahead of it.
func TestCallsStandApart(t *testing.T) {
	l := list(0, 2, 5, 5)
	for range 3 {
		wantTake(t, l, 3, 5, list(0, 2, 8, 2), api.OK)
		wantGive(t, l, api.Extent{At: 2, Size: 3}, list(0, 10), api.OK)
		wantNormal(t, list(4, 2, 0, 4), list(0, 6), api.OK)
		wantRest(t, l, 12, list(2, 3, 10, 2), api.OK)
	}
}
