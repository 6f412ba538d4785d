package shuffle_test

import (
	"math/big"
	"slices"
)

// The model is a second reading of the chapter: of places in lists, and of whole numbers of any size.

// columns tells the places of so many bytes in the order in which Shuffle tells these: those of one rank, which are width apart, and then the rest.
func columns(width, length int) []int {
	var places []int
	end := length - length%width
	for rank := range width {
		for p := rank; p < end; p += width {
			places = append(places, p)
		}
	}
	for p := end; p < length; p++ {
		places = append(places, p)
	}
	return places
}

func modelShuffle(width int, b []byte) []byte {
	var out []byte
	for _, p := range columns(width, len(b)) {
		out = append(out, b[p])
	}
	return out
}

func modelUnshuffle(width int, b []byte) []byte {
	out := make([]byte, len(b))
	for i, p := range columns(width, len(b)) {
		out[p] = b[i]
	}
	return out
}

// split tells the whole numbers of bytes, and the rest.
func split(width int, b []byte) (numbers []uint64, rest []byte) {
	for ; len(b) >= width; b = b[width:] {
		digits := slices.Clone(b[:width])
		slices.Reverse(digits)
		numbers = append(numbers, new(big.Int).SetBytes(digits).Uint64())
	}
	return numbers, b
}

func modelDelta(width int, b []byte) []byte {
	numbers, rest := split(width, b)
	told := slices.Clone(numbers)
	for i := 1; i < len(numbers); i++ {
		told[i] = less(numbers[i], numbers[i-1], width)
	}
	return append(low(width, told...), rest...)
}

func modelUndelta(width int, b []byte) []byte {
	numbers, rest := split(width, b)
	for i := 1; i < len(numbers); i++ {
		numbers[i] = more(numbers[i], numbers[i-1], width)
	}
	return append(low(width, numbers...), rest...)
}
