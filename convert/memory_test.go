package convert_test

import (
	"bytes"
	"slices"
	"testing"

	"slabvault/api"
	"slabvault/convert"
	"slabvault/datatype"
)

// spare is how many elements stand behind the length of what is handed in.
const spare = 3

// guarded tells a list with spare room that is filled.
func guarded[E any](l []E, fill E) []E {
	return slices.Concat(l, slices.Repeat([]E{fill}, spare))[:len(l)]
}

// handed tells a type alike, each list of which has spare room that is filled.
func handed(x api.Type) api.Type {
	fill := number(77, 77)
	x.Fields = guarded(x.Fields, field("spare", 77, fill))
	x.Dims = guarded(x.Dims, 77)
	x.Base = guarded(x.Base, fill)
	x.Names = guarded(x.Names, api.Member{Name: "spare", Value: 77})
	for i := range x.Fields {
		x.Fields[i].Type = handed(x.Fields[i].Type)
	}
	for i := range x.Base {
		x.Base[i] = handed(x.Base[i])
	}
	return x
}

// whole tells a copy of a type whose lists have their spare room as elements, so that it can be held against another one.
func whole(x api.Type) api.Type {
	x.Fields, x.Base = slices.Clone(x.Fields[:cap(x.Fields)]), slices.Clone(x.Base[:cap(x.Base)])
	x.Dims, x.Names = slices.Clone(x.Dims[:cap(x.Dims)]), slices.Clone(x.Names[:cap(x.Names)])
	for i := range x.Fields {
		x.Fields[i].Type = whole(x.Fields[i].Type)
	}
	for i := range x.Base {
		x.Base[i] = whole(x.Base[i])
	}
	return x
}

// fill writes all over a list, spare room too.
func fill[E any](l []E, with E) {
	l = l[:cap(l)]
	for i := range l {
		l[i] = with
	}
}

// Rule 4: types that are handed in are not changed, their spare room neither, whether they become one another or not.
func TestGivenTypesAreLeftAlone(t *testing.T) {
	all := goodTypes()
	for _, bad := range badTypes() {
		if depthOfAtMost(bad, 10) { // A type without an end cannot be copied.
			all = append(all, bad)
		}
	}
	for i, x := range all {
		for j, y := range all {
			if (i+j)%3 != 0 && i != j {
				continue
			}
			from, to := handed(x), handed(y)
			before, after := whole(from), whole(to)
			convert.Can(from, to)
			convert.One(from, to, make([]byte, 8))
			if datatype.Check(x) == api.OK {
				convert.One(from, to, make([]byte, sizeOf(x)))
				convert.All(from, to, make([]byte, 2*sizeOf(x)), 2)
			}
			if !datatype.Same(before, whole(from)) || !datatype.Same(after, whole(to)) {
				t.Errorf("%+v or %+v is changed", x, y)
			}
		}
	}
}

// depthOfAtMost says whether a type ends within so many types.
func depthOfAtMost(x api.Type, most int) bool {
	if most == 0 {
		return false
	}
	for _, f := range x.Fields {
		if !depthOfAtMost(f.Type, most-1) {
			return false
		}
	}
	for _, base := range x.Base {
		if !depthOfAtMost(base, most-1) {
			return false
		}
	}
	return true
}

// Rule 4: bytes that are handed in are not changed, and what is told shares no memory with them, nor with another answer.
func TestAnswersAreNewMemory(t *testing.T) {
	d := dice(4)
	for _, p := range pairs() {
		from, to := p[0], p[1]
		for _, n := range []int{0, 1, 3} {
			x := guarded(d.bytes(n*sizeOf(from)), 0xee)
			before := slices.Clone(x[:cap(x)])
			want := comes(from, to, x)
			tell := func() []byte {
				y, e := convert.All(from, to, x, n)
				if e != api.OK {
					t.Fatalf("All(%+v, %+v): %d", from, to, int(e))
				}
				return y
			}
			first, second := tell(), tell()
			fill(first, 0x77)
			if !bytes.Equal(before, x[:cap(x)]) || !bytes.Equal(second, want) {
				t.Fatalf("what All(%+v, %+v) tells is not new memory", from, to)
			}
			third := tell()
			fill(x, 0x33)
			if !bytes.Equal(second, want) || !bytes.Equal(third, want) {
				t.Fatalf("what All(%+v, %+v) tells is that of what was given", from, to)
			}
		}
	}
}

// Rule 4: the same of One.
func TestAnswersOfOneAreNewMemory(t *testing.T) {
	d := dice(5)
	for _, p := range pairs() {
		from, to := p[0], p[1]
		x := guarded(d.bytes(sizeOf(from)), 0xee)
		before, want := slices.Clone(x[:cap(x)]), comes(from, to, x)
		first, _ := convert.One(from, to, x)
		second, _ := convert.One(from, to, x)
		fill(first, 0x77)
		if !bytes.Equal(before, x[:cap(x)]) || !bytes.Equal(second, want) {
			t.Fatalf("what One(%+v, %+v) tells is not new memory", from, to)
		}
		fill(x, 0x33)
		if !bytes.Equal(second, want) {
			t.Fatalf("what One(%+v, %+v) tells is that of what was given", from, to)
		}
	}
}

// Rule 7: what lies behind the length of bytes that are handed in is not read.
func TestSpareRoomIsNotRead(t *testing.T) {
	d := dice(6)
	for _, p := range pairs() {
		x := d.bytes(2 * sizeOf(p[0]))
		one, _ := convert.All(p[0], p[1], guarded(x, 0xee), 2)
		other, _ := convert.All(p[0], p[1], guarded(x, 0x11), 2)
		if !bytes.Equal(one, other) {
			t.Errorf("All(%+v, %+v) reads spare room", p[0], p[1])
		}
		wantNoAll(t, p[0], p[1], append(x, x...)[:len(x)], 3, api.ErrArg)
	}
}

// Rule 5: what is told hangs on nothing that was asked ahead of it.
func TestNothingIsKept(t *testing.T) {
	d := dice(7)
	all := pairs()
	var given, told [][]byte
	for _, p := range all {
		x := d.bytes(sizeOf(p[0]))
		y, _ := convert.One(p[0], p[1], x)
		given, told = append(given, x), append(told, y)
	}
	for i := range all {
		back := len(all) - 1 - i
		wantOne(t, all[back][0], all[back][1], given[back], told[back])
	}
}
