package datatype

import (
	"slabvault/api"
	"slabvault/octet"
)

// The widths, in a type's bytes, of its Class, of counts and of what is as small; of what may be as great as an element; and of an enum's values.
const (
	smallWidth  = 1
	offsetWidth = 2
	valueWidth  = 8
)

// Bytes tells a type's bytes.
func Bytes(t api.Type) ([]byte, api.Errno) {
	if e := Check(t); e != api.OK {
		return nil, e
	}
	var out []byte
	// Each piece is laid down alone, because octet copies all that it is laid behind; and a type that may be has no number and no name that is too great for it.
	put := func(width, n int) {
		number, _ := octet.Put(nil, width, true, uint64(n))
		out = append(out, number...)
	}
	putName := func(name string) {
		run, _ := octet.PutBytes(nil, []byte(name))
		out = append(out, run...)
	}
	var walk func(t api.Type)
	walk = func(t api.Type) {
		put(smallWidth, int(t.Class))
		switch t.Class {
		case api.ClassInt, api.ClassUint, api.ClassFloat, api.ClassComplex:
			put(smallWidth, t.Width)
			put(smallWidth, bit(t.Big))
		case api.ClassCompound:
			put(offsetWidth, t.Width)
			put(smallWidth, len(t.Fields))
			for _, f := range t.Fields {
				putName(f.Name)
				put(offsetWidth, f.At)
				walk(f.Type)
			}
		case api.ClassArray:
			put(smallWidth, len(t.Dims))
			for _, d := range t.Dims {
				put(offsetWidth, d)
			}
			walk(t.Base[0])
		case api.ClassEnum:
			walk(t.Base[0])
			put(smallWidth, len(t.Names))
			for _, m := range t.Names {
				putName(m.Name)
				put(valueWidth, m.Value)
			}
		}
	}
	walk(t)
	return out, api.OK
}

// Load tells the type of bytes.
func Load(b []byte) (api.Type, api.Errno) {
	r := reader{bytes: b}
	t := r.readType()
	if r.isBad || r.at != len(b) || Check(t) != api.OK {
		return api.Type{}, api.ErrCorrupt
	}
	return t, api.OK
}

// bit tells a bool as a number.
func bit(is bool) int {
	if is {
		return 1
	}
	return 0
}

// reader goes through bytes. Once they turn out to be those of no type, all that it tells is zero.
type reader struct {
	bytes []byte
	at    int
	isBad bool
}

// readType tells the type whose bytes stand next. It goes no deeper than a type may, and takes no more parts than one may have, whatever the bytes say; all else is left to Check.
func (r *reader) readType() api.Type {
	var walk func(depth int) api.Type
	walk = func(depth int) api.Type {
		r.isBad = r.isBad || depth > api.MaxDepth
		t := api.Type{Class: api.Class(r.number(smallWidth))}
		switch t.Class {
		case api.ClassInt, api.ClassUint, api.ClassFloat, api.ClassComplex:
			t.Width = r.number(smallWidth)
			t.Big = r.count(1) == 1
		case api.ClassCompound:
			t.Width = r.number(offsetWidth)
			for range r.count(api.MaxFields) {
				f := api.Field{Name: r.name()}
				f.At = r.number(offsetWidth)
				f.Type = walk(depth + 1)
				t.Fields = append(t.Fields, f)
			}
		case api.ClassArray:
			for range r.count(api.MaxRank) {
				t.Dims = append(t.Dims, r.number(offsetWidth))
			}
			t.Base = append(t.Base, walk(depth+1))
		case api.ClassEnum:
			t.Base = append(t.Base, walk(depth+1))
			for range r.count(api.MaxFields) {
				m := api.Member{Name: r.name()}
				m.Value = r.number(valueWidth)
				t.Names = append(t.Names, m)
			}
		}
		return t
	}
	return walk(1)
}

// number tells the number that stands next. One of all 8 bytes that is too great for an int is the one below 0 that has these bytes.
func (r *reader) number(width int) int {
	if r.isBad {
		return 0
	}
	u, e := octet.Get(r.bytes, r.at, width, true)
	r.isBad = e != api.OK
	if r.isBad {
		return 0
	}
	r.at += width
	return int(u)
}

// count tells the small number that stands next, which may be most at most.
func (r *reader) count(most int) int {
	n := r.number(smallWidth)
	if n > most {
		r.isBad = true
		return 0
	}
	return n
}

// name tells the name that stands next.
func (r *reader) name() string {
	if r.isBad {
		return ""
	}
	text, next, e := octet.GetBytes(r.bytes, r.at)
	r.isBad = e != api.OK
	if r.isBad {
		return ""
	}
	r.at = next
	return string(text)
}
