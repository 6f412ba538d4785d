package header_test

import (
	"bytes"
	"encoding/binary"
	"math"
	"slices"
	"testing"

	"slabvault/api"
)

// three tells messages, and their blocks: the second one lies ahead of the first one, the third one, which has a byte left, between them.
func three() ([]api.Message, []link) {
	l := texts("abcd", "", "ijk")
	return l, linksOf(streamOf(l), room(100, 30, 10, 25, 40, 29))
}

// P8.3: three is what it says.
func TestThreeBlocks(t *testing.T) {
	l, links := three()
	if len(links) != 3 || links[2].count != links[2].Size-frame-1 {
		t.Fatal(links)
	}
	wantLoad(t, fileOf(blocksOf(links)), links[0].Extent, l, room(100, 30, 10, 25, 40, 29))
}

// P8.3: the chain's first extent in front of, behind and between the others.
func TestWhereTheChainBegins(t *testing.T) {
	l := texts("abcde", "f")
	for _, all := range [][]api.Extent{
		room(0, 25, 25, 25, 50, 40), room(50, 25, 25, 25, 0, 25), room(25, 25, 0, 25, 50, 40), room(25, 25, 50, 25, 0, 25), room(0, 20, 90, 20, 30, 60), room(100, 25, 30, 25, 0, 30),
	} {
		wantLoad(t, fileOf(wantLay(t, l, all)), all[0], l, all)
	}
}

// P8.3: a first extent that is not wide enough is told whatever the bytes are; other wrong ones hang on these.
func TestFirstExtents(t *testing.T) {
	l, links := three()
	b := fileOf(blocksOf(links))
	for _, x := range room(100, 16, 100, 0, 100, -30, -1, 30, 100, api.MaxFile-99, math.MinInt, 30, 100, math.MaxInt, math.MaxInt, 30) {
		wantNoLoad(t, b, x, api.ErrArg)
		wantNoLoad(t, nil, x, api.ErrArg)
	}
	for _, x := range room(100, 31, 101, 30, 130, 17, 131, 17, 1000, 17, 0, 131, api.MaxFile-17, 17, 0, api.MaxFile, 100, api.MaxFile-100) {
		wantNoLoad(t, b, x, api.ErrShort)
	}
	for _, x := range room(100, 29, 99, 30, 101, 29, 100, 17, 0, 130, 40, 28, 39, 29) {
		wantNoLoad(t, b, x, api.ErrCorrupt)
	}
	wantNoLoad(t, nil, room(0, 17)[0], api.ErrShort)
	wantNoLoad(t, make([]byte, 16), room(0, 17)[0], api.ErrShort)
	wantNoLoad(t, make([]byte, 17), room(0, 17)[0], api.ErrCorrupt)
	// The second and third blocks are a chain, but their bytes are no stream.
	wantNoLoad(t, b, links[1].Extent, api.ErrCorrupt)
	wantNoLoad(t, b, links[2].Extent, api.ErrCorrupt)
	wantLoad(t, b, links[0].Extent, l, room(100, 30, 10, 25, 40, 29))
}

// P8.3: bytes that end within a block, or ahead of it.
func TestBytesThatEndTooSoon(t *testing.T) {
	l := texts("abcde", "f")
	for _, all := range [][]api.Extent{room(0, 25, 30, 25, 60, 40), room(60, 25, 0, 25, 30, 25), room(0, 25, 60, 25, 30, 25)} {
		b := fileOf(wantLay(t, l, all))
		for size := range len(b) {
			wantNoLoad(t, b[:size], all[0], api.ErrShort)
			// Nor is what lies behind the length read.
			wantNoLoad(t, slices.Clip(b[:size]), all[0], api.ErrShort)
		}
		wantLoad(t, b, all[0], l, all)
	}
}

// P8.3: a block that is not sealed is told ahead of a later one that ends beyond the bytes, and that one ahead of a later one that is not sealed.
func TestFirstFaultOfTheChain(t *testing.T) {
	l, _ := three()
	links := linksOf(streamOf(l), room(0, 30, 50, 25, 200, 30))
	b := fileOf(blocksOf(links))
	wantLoad(t, b, links[0].Extent, l, room(0, 30, 50, 25, 200, 30))
	wantNoLoad(t, b[:229], links[0].Extent, api.ErrShort)
	for at, want := range map[int]api.Errno{5: api.ErrCorrupt, 55: api.ErrCorrupt, 205: api.ErrShort} {
		turned := bytes.Clone(b[:229])
		turned[at] ^= 1
		wantNoLoad(t, turned, links[0].Extent, want)
	}
}

// P8.3: bytes beyond MaxFile are of no account.
func TestMoreBytesThanAFile(t *testing.T) {
	l := texts("abc", "def")
	all := room(api.MaxFile-20, 20, 0, 50)
	b := append(fileOf(wantLay(t, l, all)), make([]byte, 3*api.MaxFile)...)
	wantLoad(t, b, all[0], l, all)
	wantNoLoad(t, b, api.Extent{At: api.MaxFile - 16, Size: 17}, api.ErrArg)
	wantNoLoad(t, b, api.Extent{At: api.MaxFile, Size: 50}, api.ErrArg)
	// A block there, though well sealed, is none.
	links := linksOf(streamOf(l), room(0, 20, api.MaxFile, 50))
	b = fileOf(blocksOf(links))
	wantNoLoad(t, b, links[0].Extent, api.ErrCorrupt)
	links = linksOf(streamOf(l), room(0, 20, api.MaxFile-49, 50))
	b = fileOf(blocksOf(links))
	wantNoLoad(t, b, links[0].Extent, api.ErrCorrupt)
}

// P8.5: one byte of a block that is another one, each in turn, to each other value.
func TestTurnedBytes(t *testing.T) {
	_, links := three()
	b := fileOf(blocksOf(links))
	for _, k := range links {
		for at := k.At; at < k.At+k.Size; at++ {
			for change := 1; change < 256; change++ {
				b[at] ^= byte(change)
				wantNoLoad(t, b, links[0].Extent, api.ErrCorrupt)
				b[at] ^= byte(change)
			}
		}
	}
}

// P8.5: likewise in greater blocks. Bytes that are no block's may be any.
func TestTurnedBytesOfGreatBlocks(t *testing.T) {
	l := []api.Message{long(200, 3000), {Kind: 4}, long(1, 1000)}
	all := room(5000, 2000, 100, 1500, 2500, 1500)
	b := fileOf(wantLay(t, l, all))
	for at := range b {
		b[at] ^= 0x10
		if slices.ContainsFunc(all, func(x api.Extent) bool { return x.At <= at && at < x.At+x.Size }) {
			wantNoLoad(t, b, all[0], api.ErrCorrupt)
		} else {
			wantLoad(t, b, all[0], l, all)
		}
		b[at] ^= 0x10
	}
}

// P8.3: blocks that are sealed well, but are none: each change alone is a fault.
func TestSealedBlocksThatAreNone(t *testing.T) {
	for name, change := range map[string]func(links []link){
		"no byte in the first":           func(k []link) { k[0].count = 0 },
		"no byte in the second":          func(k []link) { k[1].count = 0 },
		"no byte in the last":            func(k []link) { k[2].count, k[2].body = 0, nil },
		"one byte too many in the first": func(k []link) { k[0].count++ },
		"one byte too many in the last":  func(k []link) { k[2].count, k[2].body = k[2].Size-frame+1, append(k[2].body, 0, 0) },
		"far too many bytes":             func(k []link) { k[2].count = math.MaxUint32 },
		"as many as the block has":       func(k []link) { k[2].count = k[2].Size },
		"more than half of what may be":  func(k []link) { k[0].count = 1 << 31 },
		"a byte behind them":             func(k []link) { k[2].body = append(k[2].body, 1) },
		"a byte fewer, not nought":       func(k []link) { k[2].count-- },
		"room left in the first":         func(k []link) { k[0].count-- },
		"room left, and noughts there":   func(k []link) { k[0].count, k[0].body[len(k[0].body)-1] = k[0].count-1, 0 },
		"room left in the second":        func(k []link) { k[1].count, k[1].body = 1, k[1].body[:1] },
		"the last one has a next":        func(k []link) { k[2].next = api.Extent{At: 200, Size: 17} },
		"the second one is the last":     func(k []link) { k[1].next = api.Extent{} },
		"the first one is the last":      func(k []link) { k[0].next = api.Extent{} },
	} {
		t.Run(name, func(t *testing.T) {
			_, links := three()
			for i := range links {
				links[i].body = bytes.Clone(links[i].body)
			}
			change(links)
			wantNoLoad(t, append(fileOf(blocksOf(links)), make([]byte, 200)...), links[0].Extent, api.ErrCorrupt)
		})
	}
}

// P8.3: a next extent that is not wide enough, that meets this one's or an earlier one's, or that ends beyond the bytes. What meets is told ahead of what ends too soon.
func TestNextExtents(t *testing.T) {
	for _, x := range []struct {
		next api.Extent
		want api.Errno
	}{
		{api.Extent{At: 40, Size: 16}, api.ErrCorrupt}, {api.Extent{At: 40, Size: 0}, api.ErrCorrupt}, {api.Extent{At: 0, Size: 1}, api.ErrCorrupt}, {api.Extent{At: 40, Size: 1}, api.ErrCorrupt},
		{api.Extent{At: math.MaxUint32, Size: 29}, api.ErrCorrupt}, {api.Extent{At: 40, Size: math.MaxUint32}, api.ErrCorrupt}, {api.Extent{At: math.MaxUint32, Size: math.MaxUint32}, api.ErrCorrupt},
		{api.Extent{At: api.MaxFile, Size: 17}, api.ErrCorrupt}, {api.Extent{At: api.MaxFile - 16, Size: 17}, api.ErrCorrupt}, {api.Extent{At: 0, Size: api.MaxFile + 1}, api.ErrCorrupt},
		{api.Extent{At: 10, Size: 25}, api.ErrCorrupt}, {api.Extent{At: 34, Size: 29}, api.ErrCorrupt}, {api.Extent{At: 0, Size: 17}, api.ErrCorrupt}, {api.Extent{At: 15, Size: 17}, api.ErrCorrupt},
		{api.Extent{At: 100, Size: 30}, api.ErrCorrupt}, {api.Extent{At: 84, Size: 17}, api.ErrCorrupt}, {api.Extent{At: 129, Size: 17}, api.ErrCorrupt}, {api.Extent{At: 110, Size: 17}, api.ErrCorrupt},
		{api.Extent{At: 0, Size: api.MaxFile}, api.ErrCorrupt}, {api.Extent{At: 129, Size: 1000}, api.ErrCorrupt}, {api.Extent{At: 34, Size: 1000}, api.ErrCorrupt}, {api.Extent{At: 0, Size: 500}, api.ErrCorrupt},
		{api.Extent{At: 130, Size: 1000}, api.ErrShort}, {api.Extent{At: 183, Size: 18}, api.ErrShort}, {api.Extent{At: 200, Size: 17}, api.ErrShort}, {api.Extent{At: 5000, Size: 17}, api.ErrShort},
		{api.Extent{At: api.MaxFile - 17, Size: 17}, api.ErrShort}, {api.Extent{At: 130, Size: api.MaxFile - 130}, api.ErrShort},
		{api.Extent{At: 35, Size: 29}, api.OK}, {api.Extent{At: 71, Size: 29}, api.OK}, {api.Extent{At: 130, Size: 29}, api.OK}, {api.Extent{At: 171, Size: 29}, api.OK},
	} {
		l, links := three()
		links[1].next = x.next
		if x.want == api.OK {
			links[2].Extent = x.next
		}
		b := make([]byte, 200)
		copy(b, fileOf(blocksOf(links)))
		if x.want == api.OK {
			wantLoad(t, b, links[0].Extent, l, []api.Extent{links[0].Extent, links[1].Extent, x.next})
		} else {
			wantNoLoad(t, b, links[0].Extent, x.want)
		}
	}
}

// P8.3: extents that meet are told where they do, though all that comes behind them were well sealed, or ended beyond the bytes.
func TestWellSealedWhereExtentsMeet(t *testing.T) {
	stream := streamOf(texts("abcdefgh"))
	// The inner block lies whole within the stream's bytes of the outer one.
	inner := link{Extent: api.Extent{At: 40, Size: 30}, count: 14, body: stream[:14]}
	for _, next := range room(0, 0, 200, 30, 300, 30) {
		inner.next = next
		outer := link{Extent: api.Extent{At: 20, Size: 80}, count: 64, next: inner.Extent, body: slices.Concat(make([]byte, 8), inner.bytes(), make([]byte, 26))}
		last := link{Extent: api.Extent{At: 200, Size: 30}, count: 14, body: stream[:14]}
		wantNoLoad(t, fileOf(blocksOf([]link{outer, last})), outer.Extent, api.ErrCorrupt)
	}
}

// P8.3: chains that have a whole stream, and one fault: a block that is not the last one has room left, or the last one has nothing.
func TestWholeStreamsInWrongChains(t *testing.T) {
	l, _ := three()
	stream := streamOf(l)
	for size := 1; size <= len(stream); size++ {
		first := link{Extent: api.Extent{At: 60, Size: frame + size}, count: size, next: api.Extent{At: 0, Size: 60}, body: stream[:size]}
		last := link{Extent: first.next, count: len(stream) - size, body: stream[size:]}
		b := fileOf(blocksOf([]link{first, last}))
		if size < len(stream) {
			wantLoad(t, b, first.Extent, l, room(60, frame+size, 0, 60))
		} else {
			wantNoLoad(t, b, first.Extent, api.ErrCorrupt)
		}
		first.Size++
		b = fileOf(blocksOf([]link{first, last}))
		wantNoLoad(t, b, first.Extent, api.ErrCorrupt)
	}
}

// P8.3: a chain whose blocks are all well, with a whole stream, but one lies within the bytes of another one. Laid elsewhere it is good.
func TestBlockWithinABlock(t *testing.T) {
	inner := link{count: 4, body: []byte("last")}
	inner.Size = 20
	for ahead := range 20 {
		text := slices.Concat(bytes.Repeat([]byte("."), ahead), inner.bytes(), []byte(".."))
		stream := slices.Concat(number(1), number(9), number(len(text)+4), text)
		outer := link{Extent: api.Extent{At: 20, Size: frame + len(stream)}, count: len(stream), body: stream}

		inner.At = 20 + 12 + 12 + ahead
		outer.next = inner.Extent
		b := append(fileOf(blocksOf([]link{outer})), make([]byte, 100)...)
		if !bytes.Equal(b[inner.At:inner.At+20], inner.bytes()) {
			t.Fatal("the inner block is not where the outer one says")
		}
		wantNoLoad(t, b, outer.Extent, api.ErrCorrupt)

		inner.At = 110
		outer.next = inner.Extent
		want := []api.Message{{Kind: 9, Bytes: append(text, "last"...)}}
		wantLoad(t, fileOf(blocksOf([]link{outer, inner})), outer.Extent, want, []api.Extent{outer.Extent, inner.Extent})
	}
}

// P8.3: two blocks that are well and have one byte in common: the last one of the one's sum is the first one of the other's count.
func TestBlocksWithOneByteInCommon(t *testing.T) {
	found := 0
	for turn := range 3000 {
		l := texts(string(number(turn)), "abc")
		for _, all := range [][]api.Extent{room(0, 30, 29, 40), room(40, 30, 10, 31)} {
			links := linksOf(streamOf(l), all)
			low, high := links[0].bytes(), links[1].bytes()
			if links[1].At < links[0].At {
				low, high = high, low
			}
			if low[len(low)-1] != high[0] {
				continue
			}
			found++
			wantNoLoad(t, append(fileOf(blocksOf(links)), make([]byte, 100)...), all[0], api.ErrCorrupt)
		}
	}
	if found < 4 {
		t.Errorf("%d chains only", found)
	}
}

// P8.3: chains that lead back to their beginning, or into themselves, end.
func TestChainsThatLeadBack(t *testing.T) {
	body := make([]byte, 1)
	for _, count := range []int{1, 2, 3, 10, 1000, api.MaxFile / 17} {
		all := comb(count, 0, 17, 17)
		for _, back := range []int{0, count / 2, count - 1} {
			var links []link
			for i, x := range all {
				k := link{Extent: x, count: 1, next: all[back], body: body}
				if i < count-1 {
					k.next = all[i+1]
				}
				links = append(links, k)
			}
			b := fileOf(blocksOf(links))
			wantNoLoad(t, b, all[0], api.ErrCorrupt)
			wantNoLoad(t, append(b, make([]byte, 2*api.MaxFile)...), all[0], api.ErrCorrupt)
		}
	}
}

// P8.3: the chapter sets no limit to how many blocks a chain has: as many as a file has room for are read.
func TestAsLongAChainAsMayBe(t *testing.T) {
	all := comb(api.MaxFile/17, 0, 17, 17)
	slices.Reverse(all)
	l := []api.Message{long(1, api.MaxBlob), long(2, api.MaxBlob), long(3, api.MaxBlob), long(4, len(all)-4-3*(8+api.MaxBlob)-8)}
	b := fileOf(blocksOf(linksOf(streamOf(l), all)))
	wantLoad(t, b, all[0], l, all)
	wantNoLoad(t, b[:len(b)-1], all[0], api.ErrShort)
	b[3] ^= 1
	wantNoLoad(t, b, all[0], api.ErrCorrupt)
}

// P8.3: blocks whose bytes are no stream of messages that may be.
func TestBytesThatAreNoStream(t *testing.T) {
	good := streamOf(texts("ab", "", "cde"))
	with := func(at int, n uint32) []byte {
		stream := bytes.Clone(good)
		binary.BigEndian.PutUint32(stream[at:], n)
		return stream
	}
	streams := [][]byte{
		good[:1], good[:3], good[:4], good[:7], good[:8], good[:12], good[:13], good[:len(good)-1],
		append(bytes.Clone(good), 0), append(bytes.Clone(good), 1), append(bytes.Clone(good), 0, 0, 0, 1, 0, 0, 0, 0),
		{0}, {0, 0, 0, 0, 0}, {0, 0, 0, 1}, {255, 255, 255, 255}, {0, 1, 0, 0}, {0, 1, 0, 1},
	}
	for _, count := range []uint32{0, 1, 2, 4, 5, api.MaxItems, api.MaxItems + 1, 1 << 31, math.MaxUint32, 1<<24 + 3} {
		streams = append(streams, with(0, count))
	}
	for _, at := range []int{4, 14, 22} {
		for _, kind := range []uint32{0, 256, 257, 1 << 16, 1<<24 + 1, 1 << 31, math.MaxUint32} {
			streams = append(streams, with(at, kind))
		}
	}
	for _, length := range []uint32{0, 1, 2, 4, 5, api.MaxBlob, api.MaxBlob + 1, 1 << 31, math.MaxUint32} {
		streams = append(streams, with(26, length))
	}
	for _, stream := range streams {
		for _, all := range someRooms(len(stream)) {
			b := fileOf(blocksOf(linksOf(stream, all)))
			wantNoLoad(t, b, all[0], api.ErrCorrupt)
		}
	}
	for _, kind := range []uint32{1, 2, 254, 255} {
		l := texts("ab", "", "cde")
		l[1].Kind = int(kind)
		b := fileOf(blocksOf(linksOf(with(14, kind), room(0, 100))))
		wantLoad(t, b, api.Extent{At: 0, Size: 100}, l, room(0, 100))
	}
}

// P8.3: streams about their limits: MaxItems messages and one more, MaxBlob bytes and one more.
func TestStreamsAboutTheirLimits(t *testing.T) {
	whole := room(0, api.MaxFile)
	for _, x := range []struct {
		l    []api.Message
		want api.Errno
	}{
		{slices.Repeat(texts(""), api.MaxItems), api.OK},
		{slices.Repeat(texts(""), api.MaxItems+1), api.ErrCorrupt},
		{[]api.Message{long(1, api.MaxBlob)}, api.OK},
		{[]api.Message{long(1, api.MaxBlob+1)}, api.ErrCorrupt},
		{[]api.Message{long(1, 3), long(2, api.MaxBlob+1), long(1, 3)}, api.ErrCorrupt},
		{[]api.Message{long(0, 3)}, api.ErrCorrupt},
		{[]api.Message{long(256, 3)}, api.ErrCorrupt},
	} {
		b := fileOf(blocksOf(linksOf(streamOf(x.l), whole)))
		if x.want == api.OK {
			wantLoad(t, b, whole[0], x.l, whole)
		} else {
			wantNoLoad(t, b, whole[0], x.want)
		}
	}
}
