package header_test

import (
	"bytes"
	"encoding/binary"
	"hash/crc32"
	"slices"
	"strings"
	"testing"

	"slabvault/api"
	"slabvault/header"
)

// frame is how many bytes of a block are none of the stream.
const frame = 16

// noise fills a file where no block lies.
const noise = 0xa5

// room tells extents: At, Size, At, Size and so on.
func room(numbers ...int) []api.Extent {
	var l []api.Extent
	for i := 0; i < len(numbers); i += 2 {
		l = append(l, api.Extent{At: numbers[i], Size: numbers[i+1]})
	}
	return l
}

// comb tells so many extents of a size, so far from one another.
func comb(count, at, size, apart int) []api.Extent {
	l := make([]api.Extent, count)
	for i := range l {
		l[i] = api.Extent{At: at + i*apart, Size: size}
	}
	return l
}

// texts tells messages of several Kinds.
func texts(all ...string) []api.Message {
	l := []api.Message{}
	for i, text := range all {
		l = append(l, api.Message{Kind: 1 + i%255, Bytes: []byte(text)})
	}
	return l
}

// long tells a message of so many bytes.
func long(kind, size int) api.Message {
	return api.Message{Kind: kind, Bytes: bytes.Repeat([]byte{0x5a}, size)}
}

// streamOfSize tells messages whose stream has so many bytes, 12 at least.
func streamOfSize(size int) []api.Message {
	return texts(strings.Repeat("s", size-12))
}

func number(n int) []byte { return binary.BigEndian.AppendUint32(nil, uint32(n)) }

func sealed(b []byte) []byte {
	return binary.LittleEndian.AppendUint32(bytes.Clone(b), crc32.ChecksumIEEE(b))
}

// streamOf tells messages' stream, as chapter 8 says.
func streamOf(l []api.Message) []byte {
	stream := number(len(l))
	for _, m := range l {
		stream = append(stream, slices.Concat(number(m.Kind), number(len(m.Bytes)), m.Bytes)...)
	}
	return stream
}

// link is a block that need be none: what stands in it, and where.
type link struct {
	api.Extent
	count int // how many bytes of the stream it says that it has
	next  api.Extent
	body  []byte // what stands behind the head; noughts, where it ends too soon
}

// bytes tells the sealed bytes of a block.
func (k link) bytes() []byte {
	b := make([]byte, k.Size-4)
	copy(b, slices.Concat(number(k.count), number(k.next.At), number(k.next.Size), k.body))
	return sealed(b)
}

// linksOf tells the blocks of a stream, as chapter 8 says.
func linksOf(stream []byte, room []api.Extent) []link {
	var links []link
	for len(stream) > 0 {
		x := room[len(links)]
		n := min(len(stream), x.Size-frame)
		k := link{Extent: x, count: n, body: stream[:n]}
		stream = stream[n:]
		if len(stream) > 0 {
			k.next = room[len(links)+1]
		}
		links = append(links, k)
	}
	return links
}

// blocksOf tells blocks as Lay would.
func blocksOf(links []link) []api.Block {
	var blocks []api.Block
	for _, k := range links {
		blocks = append(blocks, api.Block{At: k.At, Bytes: k.bytes()})
	}
	return blocks
}

// fileOf tells a file that ends with the last of some blocks.
func fileOf(blocks []api.Block) []byte {
	size := 0
	for _, x := range blocks {
		size = max(size, x.At+len(x.Bytes))
	}
	b := bytes.Repeat([]byte{noise}, size)
	for _, x := range blocks {
		copy(b[x.At:], x.Bytes)
	}
	return b
}

func sameMessages(a, b []api.Message) bool {
	return slices.EqualFunc(a, b, func(x, y api.Message) bool { return x.Kind == y.Kind && bytes.Equal(x.Bytes, y.Bytes) })
}

func sameBlocks(a, b []api.Block) bool {
	return slices.EqualFunc(a, b, func(x, y api.Block) bool { return x.At == y.At && bytes.Equal(x.Bytes, y.Bytes) })
}

func wantSize(t *testing.T, l []api.Message, want int, errno api.Errno) {
	t.Helper()
	if n, e := header.Size(l); n != want || e != errno {
		t.Errorf("Size of %d messages: %d, error %d; want %d, error %d", len(l), n, int(e), want, int(errno))
	}
}

// wantLay asks for the blocks of messages, and tells them.
func wantLay(t *testing.T, l []api.Message, room []api.Extent) []api.Block {
	t.Helper()
	want := blocksOf(linksOf(streamOf(l), room))
	got, e := header.Lay(l, room)
	if e != api.OK || !sameBlocks(got, want) {
		t.Fatalf("Lay of %d messages into %d extents: %.100x, error %d; want %.100x", len(l), len(room), got, int(e), want)
	}
	return got
}

func wantNoLay(t *testing.T, l []api.Message, room []api.Extent, errno api.Errno) {
	t.Helper()
	if got, e := header.Lay(l, room); got != nil || e != errno {
		t.Errorf("Lay of %d messages into %d extents: %d blocks, error %d; want none, error %d", len(l), len(room), len(got), int(e), int(errno))
	}
}

func wantLoad(t *testing.T, b []byte, first api.Extent, want []api.Message, extents []api.Extent) {
	t.Helper()
	got, used, e := header.Load(b, first)
	if e != api.OK || !sameMessages(got, want) || !slices.Equal(used, extents) {
		t.Fatalf("Load of %d bytes from %v: %d messages %.100v, %d extents %.100v, error %d; want %d messages, %d extents",
			len(b), first, len(got), got, len(used), used, int(e), len(want), len(extents))
	}
}

func wantNoLoad(t *testing.T, b []byte, first api.Extent, errno api.Errno) {
	t.Helper()
	if got, used, e := header.Load(b, first); got != nil || used != nil || e != errno {
		t.Errorf("Load of %d bytes from %v: %d messages, %d extents, error %d; want none, error %d", len(b), first, len(got), len(used), int(e), int(errno))
	}
}

// someMessages are lists that may be: none, messages of no byte, of few and of many, and of all sorts of bytes.
func someMessages() [][]api.Message {
	return [][]api.Message{
		nil, {}, texts(""), texts("a"), {{Kind: 3, Bytes: []byte("ab")}}, {{Kind: 1}}, {{Kind: 255, Bytes: []byte{}}}, texts("", "", ""), texts("abc", "", "d"),
		texts("\x00", "\x00\x00\x00\x00", "\x00\x00\x00\x01\x00\x00\x00\x00"), texts(strings.Repeat("\xff", 300), "end"),
		{{Kind: 7, Bytes: []byte("x")}, {Kind: 7, Bytes: []byte("x")}, {Kind: 2}}, texts(make([]string, 300)...),
		{long(9, 1000)}, {long(200, 5000), long(1, 1), long(254, 0)}, {long(255, api.MaxBlob)}, {long(1, api.MaxBlob-1), {Kind: 4}, long(2, api.MaxBlob)},
	}
}
