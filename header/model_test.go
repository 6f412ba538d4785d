package header_test

import (
	"bytes"
	"encoding/binary"
	"hash/crc32"
	"slices"
	"testing"

	"slabvault/api"
	"slabvault/header"
)

// isWide says whether an extent is wide enough.
func isWide(x api.Extent) bool {
	return x.At >= 0 && x.Size >= 17 && x.Size <= api.MaxFile && x.At <= api.MaxFile-x.Size
}

// meet says whether two extents that are wide enough have a byte in common.
func meet(x, y api.Extent) bool { return x.At < y.At+y.Size && y.At < x.At+x.Size }

// modelLoad reads a chain as chapter 8 says it, one thing behind the other.
func modelLoad(b []byte, first api.Extent) ([]api.Message, []api.Extent, api.Errno) {
	if !isWide(first) {
		return nil, nil, api.ErrArg
	}
	var stream []byte
	var used []api.Extent
	for x := first; ; {
		if x.At+x.Size > len(b) {
			return nil, nil, api.ErrShort
		}
		block := b[x.At : x.At+x.Size]
		if binary.LittleEndian.Uint32(block[x.Size-4:]) != crc32.ChecksumIEEE(block[:x.Size-4]) {
			return nil, nil, api.ErrCorrupt
		}
		at := func(i int) int { return int(binary.BigEndian.Uint32(block[4*i:])) }
		n, next := at(0), api.Extent{At: at(1), Size: at(2)}
		if n > x.Size-frame || n == 0 || bytes.Count(block[12+n:x.Size-4], []byte{0}) != x.Size-frame-n {
			return nil, nil, api.ErrCorrupt
		}
		used, stream = append(used, x), append(stream, block[12:12+n]...)
		if next.At == 0 && next.Size == 0 {
			break
		}
		if n < x.Size-frame || !isWide(next) || slices.ContainsFunc(used, func(y api.Extent) bool { return meet(y, next) }) {
			return nil, nil, api.ErrCorrupt
		}
		x = next
	}
	l, is := modelMessages(stream)
	if !is {
		return nil, nil, api.ErrCorrupt
	}
	return l, used, api.OK
}

// modelMessages tells the messages that a stream may be that of; they have that stream, and no other.
func modelMessages(stream []byte) ([]api.Message, bool) {
	var l []api.Message
	for rest := stream[min(4, len(stream)):]; len(rest) >= 8; {
		kind, size := binary.BigEndian.Uint32(rest), int(binary.BigEndian.Uint32(rest[4:]))
		if kind < 1 || kind > 255 || size > api.MaxBlob || size > len(rest)-8 {
			return nil, false
		}
		l = append(l, api.Message{Kind: int(kind), Bytes: bytes.Clone(rest[8 : 8+size])})
		rest = rest[8+size:]
	}
	return l, len(l) <= api.MaxItems && bytes.Equal(streamOf(l), stream)
}

// dice tells numbers that are hard to foretell, and always the same ones.
type dice uint64

func (d *dice) below(n int) int {
	*d = *d*6364136223846793005 + 1442695040888963407
	return int(uint64(*d)>>33) % n
}

// message tells one of few bytes, some of which are noughts.
func (d *dice) message() api.Message {
	m := api.Message{Kind: 1 + d.below(255)}
	for range d.below(12) {
		m.Bytes = append(m.Bytes, byte(d.below(2)*d.below(256)))
	}
	return m
}

// extents tells some of a small file that lie apart, in any order.
func (d *dice) extents(size int) []api.Extent {
	var l []api.Extent
	at := d.below(20)
	for {
		x := api.Extent{At: at, Size: 17 + d.below(15)}
		if at = x.At + x.Size + d.below(2)*d.below(10); x.At+x.Size > size {
			break
		}
		l = slices.Insert(l, d.below(len(l)+1), x)
	}
	return l
}

// spoil changes a chain here and there, as if it had been laid down so.
func (d *dice) spoil(links []link, size int) {
	for range d.below(3) {
		k, other := &links[d.below(len(links))], links[d.below(len(links))]
		switch d.below(9) {
		case 0:
			k.count = d.below(k.Size)
		case 1:
			k.next = api.Extent{At: d.below(size), Size: d.below(60)}
		case 2:
			k.next = other.Extent
		case 3:
			k.next = api.Extent{At: other.At - 3 + d.below(7) + 3, Size: other.Size - 1 + d.below(3)}
		case 4:
			k.next = other.next
		case 5:
			k.body[d.below(len(k.body))] ^= byte(1 << d.below(8))
		case 6:
			k.next = api.Extent{At: d.below(size), Size: size}
		case 7:
			k.count, k.next = max(1, k.count-1), api.Extent{}
		case 8:
			k.body = append(k.body, byte(d.below(2)))
		}
	}
}

// P8.1 to P8.4: chains of all sorts, good ones and others, are read as the model reads them.
func TestLoadIsItsModel(t *testing.T) {
	const size = 240
	told := map[api.Errno]int{}
	d := dice(8)
	for range 60000 {
		var l []api.Message
		for range d.below(5) {
			l = append(l, d.message())
		}
		stream, room := streamOf(l), d.extents(size)
		have := 0
		for _, x := range room {
			have += x.Size - frame
		}
		if len(stream) > have {
			wantNoLay(t, l, room, api.ErrFull)
			continue
		}
		wantLay(t, l, room)
		links := linksOf(stream, room)
		for i := range links {
			links[i].body = bytes.Clone(links[i].body)
		}
		d.spoil(links, size)
		b := fileOf(blocksOf(links))
		b = b[:len(b)-d.below(2)*d.below(20)]
		first := links[d.below(2)*d.below(len(links))].Extent
		want, extents, errno := modelLoad(b, first)
		got, used, e := header.Load(b, first)
		if e != errno || !sameMessages(got, want) || !slices.Equal(used, extents) {
			t.Fatalf("Load(%x, %v) = %v, %v, %d; want %v, %v, %d", b, first, got, used, int(e), want, extents, int(errno))
		}
		told[errno]++
	}
	for _, errno := range []api.Errno{api.OK, api.ErrShort, api.ErrCorrupt} {
		if told[errno] < 1000 {
			t.Errorf("error %d is asked for %d times only", int(errno), told[errno])
		}
	}
}
