package datatype_test

import (
	"encoding/binary"
	"math/big"
	"slices"
	"strings"

	"slabvault/api"
)

// wholeSize tells the size of any type as chapter 9 says it, as a whole number.
func wholeSize(x api.Type) *big.Int {
	size := big.NewInt(0)
	switch x.Class {
	case api.ClassInt, api.ClassUint, api.ClassFloat, api.ClassCompound:
		size.SetInt64(int64(x.Width))
	case api.ClassComplex:
		size.Lsh(big.NewInt(int64(x.Width)), 1)
	case api.ClassArray, api.ClassEnum:
		if len(x.Base) == 0 {
			break
		}
		size.Set(wholeSize(x.Base[0]))
		for _, d := range x.Dims {
			size.Mul(size, big.NewInt(int64(d)))
		}
	}
	return size
}

// sizeOf tells the size of a type that has one.
func sizeOf(x api.Type) int { return int(wholeSize(x).Int64()) }

// depthOf tells how deep any type is.
func depthOf(x api.Type) int {
	depth := 0
	for _, f := range x.Fields {
		depth = max(depth, depthOf(f.Type))
	}
	for _, base := range x.Base {
		depth = max(depth, depthOf(base))
	}
	return depth + 1
}

// areNames says whether texts are names, all unlike, and 1 to MaxFields.
func areNames(l []string) bool {
	for _, s := range l {
		if len(s) < 1 || len(s) > api.MaxName || strings.ContainsAny(s, "/\x00") || s == "." || s == ".." {
			return false
		}
	}
	sorted := slices.Sorted(slices.Values(l))
	return len(l) >= 1 && len(l) <= api.MaxFields && len(slices.Compact(sorted)) == len(l)
}

// holds says whether a whole number is one of an integer type.
func holds(x api.Type, n int) bool {
	least, most := big.NewInt(0), new(big.Int).Lsh(big.NewInt(1), uint(8*x.Width))
	if x.Class == api.ClassInt {
		half := new(big.Int).Rsh(most, 1)
		least.Neg(half)
		most = half
	}
	return big.NewInt(int64(n)).Cmp(least) >= 0 && big.NewInt(int64(n)).Cmp(most) < 0
}

// mayBe says whether a type may be, as chapter 9 says it, one thing behind the other.
func mayBe(x api.Type) bool {
	own := api.Type{Class: x.Class}
	fits := false
	switch x.Class {
	case api.ClassInt, api.ClassUint:
		own.Width, own.Big = x.Width, x.Big
		fits = x.Width >= 1 && x.Width <= 8
	case api.ClassFloat, api.ClassComplex:
		own.Width, own.Big = x.Width, x.Big
		fits = x.Width == 4 || x.Width == 8
	case api.ClassCompound:
		own.Width, own.Fields = x.Width, x.Fields
		fits = fieldsFit(x)
	case api.ClassArray:
		own.Dims, own.Base = x.Dims, x.Base
		fits = len(x.Dims) >= 1 && len(x.Dims) <= api.MaxRank && len(x.Base) == 1 && mayBe(x.Base[0]) &&
			slices.Min(x.Dims) >= 1 && slices.Max(x.Dims) <= api.MaxElement
	case api.ClassEnum:
		own.Base, own.Names = x.Base, x.Names
		fits = membersFit(x)
	}
	return fits && alike(own, x) && wholeSize(x).Cmp(big.NewInt(api.MaxElement)) <= 0 && depthOf(x) <= api.MaxDepth
}

func fieldsFit(x api.Type) bool {
	var names []string
	end := big.NewInt(0)
	for _, f := range x.Fields {
		names = append(names, f.Name)
		at := big.NewInt(int64(f.At))
		if !mayBe(f.Type) || at.Cmp(end) < 0 {
			return false
		}
		end.Add(at, wholeSize(f.Type))
	}
	return areNames(names) && end.Cmp(big.NewInt(int64(x.Width))) <= 0 && x.Width >= 1 && x.Width <= api.MaxElement
}

func membersFit(x api.Type) bool {
	if len(x.Base) != 1 || !mayBe(x.Base[0]) || x.Base[0].Class != api.ClassInt && x.Base[0].Class != api.ClassUint {
		return false
	}
	var names []string
	var numbers []int
	for _, m := range x.Names {
		names, numbers = append(names, m.Name), append(numbers, m.Value)
		if !holds(x.Base[0], m.Value) {
			return false
		}
	}
	slices.Sort(numbers)
	return areNames(names) && len(slices.Compact(numbers)) == len(names)
}

// placesOf tells the places of a type that may be, an array's by all its Dims, one behind the other.
func placesOf(x api.Type, at int) []api.Place {
	var l []api.Place
	switch x.Class {
	case api.ClassInt, api.ClassUint, api.ClassFloat:
		l = append(l, api.Place{At: at, Class: x.Class, Width: x.Width, Big: x.Big})
	case api.ClassComplex:
		for i := range 2 {
			l = append(l, api.Place{At: at + i*x.Width, Class: api.ClassFloat, Width: x.Width, Big: x.Big})
		}
	case api.ClassCompound:
		for _, f := range x.Fields {
			l = append(l, placesOf(f.Type, at+f.At)...)
		}
	case api.ClassEnum:
		l = placesOf(x.Base[0], at)
	case api.ClassArray:
		if len(x.Dims) == 0 {
			return placesOf(x.Base[0], at)
		}
		slice := x
		slice.Dims = x.Dims[1:]
		for i := range x.Dims[0] {
			l = append(l, placesOf(slice, at+i*sizeOf(slice))...)
		}
	}
	return l
}

// turned tells a type in an order of bytes.
func turned(x api.Type, order bool) api.Type {
	if x.Class <= api.ClassComplex {
		x.Big = order
	}
	x.Fields, x.Base = slices.Clone(x.Fields), slices.Clone(x.Base)
	for i := range x.Fields {
		x.Fields[i].Type = turned(x.Fields[i].Type, order)
	}
	for i := range x.Base {
		x.Base[i] = turned(x.Base[i], order)
	}
	return x
}

// withName tells bytes with a name behind them.
func withName(b []byte, name string) []byte {
	return append(binary.BigEndian.AppendUint32(b, uint32(len(name))), name...)
}

// withNumber tells bytes with a number of two bytes behind them.
func withNumber(b []byte, n int) []byte { return binary.BigEndian.AppendUint16(b, uint16(n)) }

// bytesOf tells a type's bytes, as chapter 9 says; of one that may not be the lowest digits of what is too great.
func bytesOf(x api.Type) []byte {
	b := []byte{byte(x.Class)}
	switch x.Class {
	case api.ClassInt, api.ClassUint, api.ClassFloat, api.ClassComplex:
		b = append(b, byte(x.Width), 0)
		if x.Big {
			b[2] = 1
		}
	case api.ClassCompound:
		b = append(withNumber(b, x.Width), byte(len(x.Fields)))
		for _, f := range x.Fields {
			b = append(withNumber(withName(b, f.Name), f.At), bytesOf(f.Type)...)
		}
	case api.ClassArray:
		b = append(b, byte(len(x.Dims)))
		for _, d := range x.Dims {
			b = withNumber(b, d)
		}
		b = append(b, bytesOf(x.Base[0])...)
	case api.ClassEnum:
		b = append(append(b, bytesOf(x.Base[0])...), byte(len(x.Names)))
		for _, m := range x.Names {
			b = binary.BigEndian.AppendUint64(withName(b, m.Name), uint64(m.Value))
		}
	}
	return b
}

// read tells the type that bytes begin with, whatever it is, and the bytes behind it; it panics where they end.
func read(b []byte) (api.Type, []byte) {
	x, b := api.Type{Class: api.Class(b[0])}, b[1:]
	name := func() string {
		size := binary.BigEndian.Uint32(b)
		text := string(b[4 : 4+size])
		b = b[4+size:]
		return text
	}
	number := func() int {
		n := int(binary.BigEndian.Uint16(b))
		b = b[2:]
		return n
	}
	count := func() int {
		n := int(b[0])
		b = b[1:]
		return n
	}
	switch x.Class {
	case api.ClassInt, api.ClassUint, api.ClassFloat, api.ClassComplex:
		x.Width, x.Big = count(), count() != 0
	case api.ClassCompound:
		x.Width = number()
		for range count() {
			f := api.Field{Name: name(), At: number()}
			f.Type, b = read(b)
			x.Fields = append(x.Fields, f)
		}
	case api.ClassArray:
		for range count() {
			x.Dims = append(x.Dims, number())
		}
		x.Base = make([]api.Type, 1)
		x.Base[0], b = read(b)
	case api.ClassEnum:
		x.Base = make([]api.Type, 1)
		x.Base[0], b = read(b)
		for range count() {
			m := api.Member{Name: name(), Value: int(binary.BigEndian.Uint64(b))}
			b = b[8:]
			x.Names = append(x.Names, m)
		}
	}
	return x, b
}

// typeOf tells the type that may be and has these bytes, if there is one: what the bytes say, if it may be and is laid down just so.
func typeOf(b []byte) (x api.Type, is bool) {
	defer func() {
		if recover() != nil {
			x, is = api.Type{}, false
		}
	}()
	x, _ = read(b)
	if !mayBe(x) || string(bytesOf(x)) != string(b) {
		return api.Type{}, false
	}
	return x, true
}
