package header_test

import (
	"bytes"
	"math"
	"slices"
	"testing"

	"slabvault/api"
	"slabvault/header"
)

// P8.2: example 1, byte by byte.
func TestBlocksWrittenOut(t *testing.T) {
	l := []api.Message{{Kind: 3, Bytes: []byte("ab")}}
	one := sealed([]byte("\x00\x00\x00\x0e" + "\x00\x00\x00\x00" + "\x00\x00\x00\x00" + "\x00\x00\x00\x01" + "\x00\x00\x00\x03" + "\x00\x00\x00\x02ab"))
	if got, e := header.Lay(l, room(0, 30)); e != api.OK || !sameBlocks(got, []api.Block{{At: 0, Bytes: one}}) {
		t.Errorf("%x, error %d", got, int(e))
	}
	first := sealed([]byte("\x00\x00\x00\x04" + "\x00\x00\x00\x00" + "\x00\x00\x00\x1e" + "\x00\x00\x00\x01"))
	second := sealed([]byte("\x00\x00\x00\x0a" + "\x00\x00\x00\x00" + "\x00\x00\x00\x00" + "\x00\x00\x00\x03" + "\x00\x00\x00\x02ab" + "\x00\x00\x00\x00"))
	if got, e := header.Lay(l, room(40, 20, 0, 30)); e != api.OK || !sameBlocks(got, []api.Block{{At: 40, Bytes: first}, {At: 0, Bytes: second}}) {
		t.Errorf("%x, error %d", got, int(e))
	}
	wantNoLay(t, l, room(0, 20), api.ErrFull)
	wantNoLay(t, l, room(0, 16), api.ErrArg)
}

// P8.2: no message still has a stream, that of its count.
func TestNoMessage(t *testing.T) {
	for _, l := range [][]api.Message{nil, {}} {
		wantNoLay(t, l, nil, api.ErrFull)
		wantNoLay(t, l, []api.Extent{}, api.ErrFull)
		wantNoLay(t, l, room(0, 17), api.ErrFull)
		wantNoLay(t, l, room(0, 19), api.ErrFull)
		for _, x := range []struct {
			room   []api.Extent
			blocks int
		}{{room(0, 20), 1}, {room(5, 100), 1}, {room(50, 17, 0, 19), 2}, {room(60, 17, 40, 17, 20, 17, 0, 17), 4}, {room(0, 18, 18, 18, 36, 18), 2}} {
			if got := wantLay(t, l, x.room); len(got) != x.blocks {
				t.Errorf("%v: %d blocks; want %d", x.room, len(got), x.blocks)
			}
		}
	}
}

// someRooms are extents that have room for so many bytes: in rising and in falling order of places, in neither, touching, with gaps, of the least size.
func someRooms(size int) map[string][]api.Extent {
	rooms := map[string][]api.Extent{
		"one": room(3, size+frame), "one at the file's end": room(api.MaxFile-size-frame, size+frame), "the whole file": room(0, api.MaxFile),
		"two that touch": room(0, 17, 17, size+frame), "two, the other way about": room(size+frame, 20, 0, size+frame), "one between": room(100, 18, 50, 19, 200, size+frame),
		"one that is not needed": room(40, size+frame, 0, 17), "one in front": room(0, 18, 5000, 17, 2000, 25, 9000, size+frame),
	}
	for _, each := range []int{1, 2, 3, 7, 100} {
		count := (size + each - 1) / each
		if count*(each+frame) > api.MaxFile || count > api.MaxItems {
			continue
		}
		rising := comb(count, 0, each+frame, each+frame)
		falling := slices.Clone(rising)
		slices.Reverse(falling)
		rooms["rising "+string(rune('a'+each))] = rising
		rooms["falling "+string(rune('a'+each))] = falling
	}
	return rooms
}

// P8.2, P8.4: blocks, and messages that come back from them.
func TestMessagesIntoRooms(t *testing.T) {
	for _, l := range someMessages() {
		for _, room := range someRooms(len(streamOf(l))) {
			blocks := wantLay(t, l, room)
			b := fileOf(blocks)
			wantLoad(t, b, room[0], l, room[:len(blocks)])
			wantNoLoad(t, b[:len(b)-1], room[0], api.ErrShort)
			wantLoad(t, append(b, noise, 0), room[0], l, room[:len(blocks)])
		}
	}
}

// P8.2, P8.6: a stream that fills its extents to the last byte, has one byte more, and one fewer; and extents that are not needed.
func TestStreamsAboutTheirRoom(t *testing.T) {
	for _, room := range [][]api.Extent{
		room(0, 40), room(7, 30), room(0, 29, 29, 18), room(100, 17, 50, 17, 0, 40), room(60, 33, 10, 17, 30, 28), comb(20, 0, 17, 20), comb(20, 900, 18, -18), comb(9, 5, 30, 100),
	} {
		have := 0
		for count, x := range room {
			have += x.Size - frame
			if have < 13 {
				continue
			}
			for size, blocks := range map[int]int{have - 1: 0, have: count + 1, have + 1: count + 2} {
				l, some := streamOfSize(size), room[:count+1]
				if size > have {
					wantNoLay(t, l, some, api.ErrFull)
					some = room
				}
				if size > have && count+1 == len(room) {
					continue
				}
				got := wantLay(t, l, some)
				if blocks > 0 && len(got) != blocks {
					t.Errorf("%d bytes into %v: %d blocks; want %d", size, some, len(got), blocks)
				}
				wantNoEmptyBlock(t, got)
			}
		}
	}
}

// wantNoEmptyBlock asks that each block has a byte of the stream, and each but the last one as many as it can.
func wantNoEmptyBlock(t *testing.T, blocks []api.Block) {
	t.Helper()
	for i, x := range blocks {
		n := int(x.Bytes[0])<<24 | int(x.Bytes[1])<<16 | int(x.Bytes[2])<<8 | int(x.Bytes[3])
		if n < 1 || n > len(x.Bytes)-frame || i < len(blocks)-1 && n != len(x.Bytes)-frame {
			t.Errorf("block %d of %d, of %d bytes, has %d", i, len(blocks), len(x.Bytes), n)
		}
	}
}

// P8.6: refused just if there is too little room, over all sizes of streams and some of rooms.
func TestRefusedJustForWantOfRoom(t *testing.T) {
	for _, room := range [][]api.Extent{room(0, 17), room(9, 36), room(0, 17, 17, 40), room(80, 21, 60, 19, 0, 44), comb(30, 0, 17, 17), comb(5, 400, 20, -50)} {
		have := 0
		for _, x := range room {
			have += x.Size - frame
		}
		for size := 12; size < 60; size++ {
			if size > have {
				wantNoLay(t, streamOfSize(size), room, api.ErrFull)
			} else {
				wantNoEmptyBlock(t, wantLay(t, streamOfSize(size), room))
			}
		}
	}
}

// P8.2, P8.6: messages that no file has room for are refused for want of room, not for their size.
func TestMoreThanAFile(t *testing.T) {
	whole := room(0, api.MaxFile)
	l := slices.Repeat([]api.Message{long(1, api.MaxBlob)}, 500)
	wantNoLay(t, l, whole, api.ErrFull)
	wantNoLay(t, l[:64], whole, api.ErrFull)
	fill := slices.Concat(l[:63], []api.Message{long(2, api.MaxFile-frame-4-63*(8+api.MaxBlob)-8)})
	wantLoad(t, fileOf(wantLay(t, fill, whole)), whole[0], fill, whole)
	fill[63].Bytes = append(fill[63].Bytes, 1)
	wantNoLay(t, fill, whole, api.ErrFull)
}

// P8.2: extents of 16, 17 and 18 bytes, and others that are not wide enough.
func TestNarrowRoom(t *testing.T) {
	for _, x := range []api.Extent{
		{At: 0, Size: 16}, {At: 0, Size: 15}, {At: 0, Size: 1}, {}, {At: 0, Size: -1}, {At: 0, Size: -20}, {At: -1, Size: 30}, {At: -30, Size: 30}, {At: -100, Size: 200},
		{At: 1, Size: api.MaxFile}, {At: 0, Size: api.MaxFile + 1}, {At: api.MaxFile, Size: 17}, {At: api.MaxFile - 16, Size: 17}, {At: api.MaxFile - 16, Size: 16},
		{At: math.MaxInt, Size: math.MaxInt}, {At: math.MaxInt, Size: 17}, {At: 17, Size: math.MaxInt}, {At: math.MinInt, Size: 30}, {At: 30, Size: math.MinInt}, {At: math.MinInt, Size: math.MinInt},
		{At: 1 << 32, Size: 30}, {At: 0, Size: 1<<32 + 30},
	} {
		wantNoLay(t, texts("a"), []api.Extent{x}, api.ErrArg)
		// Wherever it stands, and though it is not needed.
		wide := room(1000, 50, 2000, 50, 3000, 50)
		for i := range 4 {
			wantNoLay(t, texts("a"), slices.Insert(slices.Clone(wide), i, x), api.ErrArg)
		}
		wantNoLoad(t, make([]byte, 100), x, api.ErrArg)
	}
	wantLay(t, texts("a"), comb(13, 0, 17, 17))
	wantLay(t, texts("a"), comb(7, 0, 18, 18))
	wantLay(t, texts(""), room(api.MaxFile-17, 17, 0, 30))
}

// P8.2: extents that touch are good, those with one byte in common are not, wherever they stand and though they are not needed.
func TestRoomThatMeets(t *testing.T) {
	l := texts("abc")
	wantLay(t, l, room(0, 20, 20, 30))
	wantLay(t, l, room(30, 30, 0, 30))
	for _, meet := range [][]api.Extent{
		room(0, 20, 19, 30), room(19, 30, 0, 20), room(0, 40, 0, 40), room(0, 100, 50, 20), room(50, 20, 0, 100), room(0, 50, 100, 50, 40, 61),
		room(100, 50, 0, 50, 49, 20), room(500, 100, 0, 20, 40, 20, 60, 20, 79, 20), room(0, api.MaxFile, api.MaxFile-17, 17),
	} {
		wantNoLay(t, l, meet, api.ErrArg)
		wantNoLay(t, nil, meet, api.ErrArg)
		slices.Reverse(meet)
		wantNoLay(t, l, meet, api.ErrArg)
	}
}

// P8.2: MaxItems extents, and one more.
func TestManyExtents(t *testing.T) {
	all := comb(api.MaxItems+1, 0, 17, 17)
	slices.Reverse(all)
	l := []api.Message{long(1, api.MaxItems-12)}
	blocks := wantLay(t, l, all[1:])
	wantLoad(t, fileOf(blocks), all[1], l, all[1:])
	wantNoLay(t, l, all[2:], api.ErrFull)
	wantNoLay(t, l, all, api.ErrBig)
	wantNoLay(t, nil, all, api.ErrBig)
	wide := comb(api.MaxItems+1, 0, 60, 60)
	wantLay(t, l, wide[1:])
	wantNoLay(t, l, wide, api.ErrBig)
}

// P8.2, P8.4: MaxItems messages, of no byte and of few.
func TestManyMessagesBack(t *testing.T) {
	for _, size := range []int{0, 3, 50} {
		l := slices.Repeat([]api.Message{long(5, size)}, api.MaxItems)
		l[0].Kind, l[api.MaxItems-1].Kind = 1, 255
		all := comb(40, 4000000, 100000, -100000)
		blocks := wantLay(t, l, all)
		wantLoad(t, fileOf(blocks), all[0], l, all[:len(blocks)])
	}
}

// P8.2: the errors in their order.
func TestOrderOfLaysErrors(t *testing.T) {
	big, wrong, good := []api.Message{long(1, api.MaxBlob+1)}, texts("a"), texts("a")
	wrong[0].Kind = 0
	many := comb(api.MaxItems+1, 0, 17, 17)
	manyWrong := slices.Repeat(room(-1, 0), api.MaxItems+1)
	for _, x := range []struct {
		l    []api.Message
		room []api.Extent
		want api.Errno
	}{
		{big, many, api.ErrBig}, {big, room(0, 16), api.ErrBig}, {big, nil, api.ErrBig},
		{wrong, many, api.ErrArg}, {wrong, manyWrong, api.ErrArg}, {wrong, nil, api.ErrArg}, {wrong, room(0, 17), api.ErrArg},
		{good, many, api.ErrBig}, {good, manyWrong, api.ErrBig}, {good, manyWrong[1:], api.ErrArg},
		{good, room(0, 16), api.ErrArg}, {good, room(0, 17, 16, 17), api.ErrArg}, {good, room(0, 17, 17, 16), api.ErrArg},
		{good, room(0, 17, 17, 17), api.ErrFull}, {good, nil, api.ErrFull},
	} {
		wantNoLay(t, x.l, x.room, x.want)
	}
}

// P8.2: what is behind the stream in its last block are noughts, whatever stood in memory.
func TestNoughtsBehindTheStream(t *testing.T) {
	for range 20 {
		blocks := wantLay(t, texts("abc"), room(0, 5000))
		if rest := blocks[0].Bytes[12+15 : 5000-4]; bytes.Count(rest, []byte{0}) != len(rest) {
			t.Fatalf("%x", rest)
		}
	}
}
