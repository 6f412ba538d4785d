package convert_test

import (
	"encoding/binary"
	"math"
	"math/big"
	"slices"
	"strconv"

	"slabvault/api"
)

// The model does not walk two types at once. It tells each type as a list of nodes, each of which has a text of its own that says which field, which element and which part it is: what comes of an element is laid number by number, each from the number that has the same text.

// node is a type within a type.
type node struct {
	kind string // what must be the same in both
	path string
	at   int
	t    api.Type // of a number
}

// The kinds of nodes: a number or a complex type; an integer or a float that is a part of it; the others say more.
const (
	kindPlain    = "plain"
	kindPart     = "part"
	kindCompound = "compound"
)

// sizeOf tells the size of a type that may be, as chapter 9 says.
func sizeOf(t api.Type) int {
	size := t.Width
	switch t.Class {
	case api.ClassComplex:
		size *= 2
	case api.ClassArray, api.ClassEnum:
		size = sizeOf(t.Base[0])
		for _, d := range t.Dims {
			size *= d
		}
	}
	return size
}

// nodes tells all nodes of a type that may be. A field's text has a '/', which no name has, and an element's two, so that no two texts are alike.
func nodes(t api.Type, path string, at int) []node {
	switch t.Class {
	case api.ClassEnum:
		return nodes(t.Base[0], path, at)
	case api.ClassCompound:
		l := []node{{kind: kindCompound, path: path}}
		for _, f := range t.Fields {
			l = append(l, nodes(f.Type, path+"/"+f.Name, at+f.At)...)
		}
		return l
	case api.ClassArray:
		l := []node{{kind: "array", path: path}}
		for _, d := range t.Dims {
			l[0].kind += " " + strconv.Itoa(d)
		}
		for i := range sizeOf(t) / sizeOf(t.Base[0]) {
			l = append(l, nodes(t.Base[0], path+"//"+strconv.Itoa(i), at+i*sizeOf(t.Base[0]))...)
		}
		return l
	}
	l := []node{{kind: kindPlain, path: path}, {kind: kindPart, path: path + "//first", at: at, t: t}}
	if t.Class == api.ClassComplex {
		l[1].t.Class = api.ClassFloat
		l = append(l, node{kind: kindPart, path: path + "//second", at: at + t.Width, t: l[1].t})
	}
	return l
}

// byPath tells a type's nodes by their texts.
func byPath(t api.Type) map[string]node {
	all := map[string]node{}
	for _, n := range nodes(t, "", 0) {
		all[n.path] = n
	}
	return all
}

// becomes says whether a type that may be becomes another one: whatever both have is of one kind.
func becomes(from, to api.Type) bool {
	sources := byPath(from)
	for path, target := range byPath(to) {
		if source, is := sources[path]; is && source.kind != target.kind {
			return false
		}
	}
	return true
}

// comes tells what comes of elements, of types of which the one becomes the other.
func comes(from, to api.Type, x []byte) []byte {
	sources, targets := byPath(from), byPath(to)
	var out []byte
	for element := range slices.Chunk(x, sizeOf(from)) {
		y := make([]byte, sizeOf(to))
		for path, target := range targets {
			if source, is := sources[path]; is && target.kind == kindPart {
				copy(y[target.at:], numberOf(source.t, target.t, element[source.at:source.at+source.t.Width]))
			}
		}
		out = append(out, y...)
	}
	return out
}

// highest tells a number's bytes with the highest one first, or such bytes in the number's own order.
func highest(t api.Type, b []byte) []byte {
	b = slices.Clone(b)
	if !t.Big {
		slices.Reverse(b)
	}
	return b
}

// numberOf tells what comes of one integer or float, in whole numbers and floats of any size.
func numberOf(from, to api.Type, x []byte) []byte {
	b := highest(from, x)
	if from.Class == to.Class && from.Width == to.Width {
		return highest(to, b)
	}
	if from.Class != api.ClassFloat {
		n := wholeOf(from, b)
		if to.Class != api.ClassFloat {
			return highest(to, wholeBytes(to, n))
		}
		return highest(to, floatBytes(to, new(big.Float).SetPrec(200).SetInt(n)))
	}
	f, isNaN := floatOf(b)
	switch {
	case isNaN && to.Class != api.ClassFloat:
		return make([]byte, to.Width)
	case isNaN && to.Width == 4:
		return highest(to, []byte{0x7f, 0xc0, 0, 0})
	case isNaN:
		return highest(to, []byte{0x7f, 0xf8, 0, 0, 0, 0, 0, 0})
	case to.Class == api.ClassFloat:
		return highest(to, floatBytes(to, f))
	case f.IsInf():
		f = new(big.Float).SetMantExp(big.NewFloat(float64(f.Sign())), 2000)
	}
	n, _ := f.Int(nil)
	return highest(to, wholeBytes(to, n))
}

// wholeOf tells the integer that has these bytes, the highest one first.
func wholeOf(t api.Type, b []byte) *big.Int {
	n := new(big.Int).SetBytes(b)
	if t.Class == api.ClassInt && b[0] >= 0x80 {
		n.Sub(n, power(8*t.Width))
	}
	return n
}

// power tells 2^n.
func power(n int) *big.Int { return new(big.Int).Lsh(big.NewInt(1), uint(n)) }

// ends tells the least and the greatest integer of a type.
func ends(t api.Type) (least, most *big.Int) {
	if t.Class == api.ClassInt {
		return new(big.Int).Neg(power(8*t.Width - 1)), plus(power(8*t.Width-1), -1)
	}
	return new(big.Int), plus(power(8*t.Width), -1)
}

// plus tells an integer and some more.
func plus(n *big.Int, more int64) *big.Int { return new(big.Int).Add(n, big.NewInt(more)) }

// wholeBytes tells the bytes of an integer, or of the end of the type's range that lies nearest, the highest one first.
func wholeBytes(t api.Type, n *big.Int) []byte {
	least, most := ends(t)
	if n.Cmp(least) < 0 {
		n = least
	}
	if n.Cmp(most) > 0 {
		n = most
	}
	if n.Sign() < 0 {
		n = new(big.Int).Add(n, power(8*t.Width))
	}
	return n.FillBytes(make([]byte, t.Width))
}

// floatOf tells the float that has these bytes, the highest one first, by its sign, exponent and fraction.
func floatOf(b []byte) (f *big.Float, isNaN bool) {
	bits, fraction, exponent := new(big.Int).SetBytes(b).Uint64(), 23, 8
	if len(b) == 8 {
		fraction, exponent = 52, 11
	}
	part := bits & (1<<fraction - 1)
	x := int(bits >> fraction & (1<<exponent - 1))
	lowest := 2 - 1<<(exponent-1) - fraction // The least float above 0 is 2 to this.
	f = new(big.Float).SetPrec(200)
	switch {
	case x == 1<<exponent-1 && part != 0:
		return nil, true
	case x == 1<<exponent-1:
		f.SetInf(false)
	case x == 0:
		f.SetMantExp(f.SetUint64(part), lowest)
	default:
		f.SetMantExp(f.SetUint64(1<<fraction|part), lowest+x-1)
	}
	if b[0] >= 0x80 {
		f.Neg(f)
	}
	return f, false
}

// floatBytes tells the bytes of a float, rounded, the highest one first.
func floatBytes(t api.Type, f *big.Float) []byte {
	if t.Width == 4 {
		narrow, _ := f.Float32()
		return binary.BigEndian.AppendUint32(nil, math.Float32bits(narrow))
	}
	wide, _ := f.Float64()
	return binary.BigEndian.AppendUint64(nil, math.Float64bits(wide))
}
