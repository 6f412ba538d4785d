package header_test

import (
	"math"
	"slices"
	"testing"

	"slabvault/api"
)

// P8.1
func TestSizes(t *testing.T) {
	wantSize(t, nil, 4, api.OK)
	wantSize(t, []api.Message{}, 4, api.OK)
	wantSize(t, texts(""), 12, api.OK)
	wantSize(t, []api.Message{{Kind: 3, Bytes: []byte("ab")}}, 14, api.OK)
	wantSize(t, texts("abc", "", "d"), 4+11+8+9, api.OK)
	for _, l := range someMessages() {
		wantSize(t, l, len(streamOf(l)), api.OK)
	}
}

// P8.1: messages of MaxBlob bytes and of one more, alone and among others.
func TestSizesOfLongMessages(t *testing.T) {
	wantSize(t, []api.Message{long(1, api.MaxBlob-1)}, 12+api.MaxBlob-1, api.OK)
	wantSize(t, []api.Message{long(1, api.MaxBlob)}, 12+api.MaxBlob, api.OK)
	wantSize(t, []api.Message{long(1, api.MaxBlob+1)}, 0, api.ErrBig)
	wantSize(t, []api.Message{long(1, 4*api.MaxBlob)}, 0, api.ErrBig)
	for i := range 3 {
		l := texts("a", "b", "c")
		l[i] = long(1, api.MaxBlob+1)
		wantSize(t, l, 0, api.ErrBig)
	}
	// More bytes than a file has: Size asks nothing of that.
	wantSize(t, slices.Repeat([]api.Message{long(1, api.MaxBlob)}, 1000), 4+1000*(8+api.MaxBlob), api.OK)
}

// P8.1: MaxItems messages, one fewer and one more.
func TestSizesOfManyMessages(t *testing.T) {
	for _, size := range []int{0, 1, 100} {
		l := slices.Repeat([]api.Message{long(5, size)}, api.MaxItems+1)
		wantSize(t, l[:api.MaxItems-1], 4+(api.MaxItems-1)*(8+size), api.OK)
		wantSize(t, l[:api.MaxItems], 4+api.MaxItems*(8+size), api.OK)
		wantSize(t, l, 0, api.ErrBig)
	}
}

// goodKinds and wrongKinds are those that messages may and may not have. Some of the wrong ones would be good ones, if some of their bits were lost.
var (
	goodKinds  = []int{1, 2, 127, 128, 254, 255}
	wrongKinds = []int{0, -1, -255, 256, 257, 511, 512, 1<<16 + 1, 1<<32 + 1, 1<<32 - 1, math.MinInt, math.MinInt + 1, math.MaxInt}
)

// P8.1
func TestKinds(t *testing.T) {
	for i := range 3 {
		l := texts("a", "b", "c")
		for _, kind := range goodKinds {
			l[i].Kind = kind
			wantSize(t, l, 4+3*9, api.OK)
		}
		for _, kind := range wrongKinds {
			l[i].Kind = kind
			wantSize(t, l, 0, api.ErrArg)
			wantNoLay(t, l, room(0, 100), api.ErrArg)
		}
	}
}

// P8.1: what is too great is told ahead of a wrong Kind, wherever either stands.
func TestOrderOfSizesErrors(t *testing.T) {
	for _, l := range [][]api.Message{
		{{Kind: 0}, long(1, api.MaxBlob+1)},
		{long(1, api.MaxBlob+1), {Kind: 256}},
		{long(0, api.MaxBlob+1)},
		slices.Repeat([]api.Message{{Kind: 0}}, api.MaxItems+1),
		slices.Repeat([]api.Message{long(0, api.MaxBlob+1)}, 2),
	} {
		wantSize(t, l, 0, api.ErrBig)
		wantNoLay(t, l, nil, api.ErrBig)
	}
	wantSize(t, slices.Repeat([]api.Message{{Kind: 0}}, api.MaxItems), 0, api.ErrArg)
	wantSize(t, []api.Message{long(0, api.MaxBlob)}, 0, api.ErrArg)
}
