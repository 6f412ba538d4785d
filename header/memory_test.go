package header_test

import (
	"bytes"
	"slices"
	"testing"

	"slabvault/api"
	"slabvault/header"
)

// spare is how many elements stand behind the length of what is handed in.
const spare = 20

// guarded tells a list with spare room, and that same memory whole.
func guarded[E any](l []E, fill E) (part, whole []E) {
	whole = slices.Concat(l, slices.Repeat([]E{fill}, spare))
	return whole[:len(l)], whole
}

// scribble writes all over a list, spare room too.
func scribble[E any](l []E, with E) {
	l = l[:cap(l)]
	for i := range l {
		l[i] = with
	}
}

// given is what Lay is handed, each list with spare room, and the whole memory of all that.
type given struct {
	l        []api.Message
	room     []api.Extent
	messages []api.Message
	extents  []api.Extent
	bytes    [][]byte
}

func handed(l []api.Message, room []api.Extent) given {
	var g given
	var own []api.Message
	for _, m := range l {
		part, whole := guarded(m.Bytes, 0xee)
		own = append(own, api.Message{Kind: m.Kind, Bytes: part})
		g.bytes = append(g.bytes, whole)
	}
	g.l, g.messages = guarded(own, api.Message{Kind: -5})
	g.room, g.extents = guarded(room, api.Extent{At: -7, Size: -7})
	return g
}

// wantLeft asks that all is as handed(l, room) made it.
func (g given) wantLeft(t *testing.T, l []api.Message, room []api.Extent) {
	t.Helper()
	want := handed(l, room)
	same := slices.EqualFunc(g.messages, want.messages, func(x, y api.Message) bool {
		return x.Kind == y.Kind && bytes.Equal(x.Bytes, y.Bytes) && cap(x.Bytes) == cap(y.Bytes)
	})
	if !same || !slices.Equal(g.extents, want.extents) || !slices.EqualFunc(g.bytes, want.bytes, bytes.Equal) {
		t.Errorf("what was given is changed")
	}
}

// scribble writes all over what was given.
func (g given) scribble() {
	for _, b := range g.bytes {
		scribble(b, 0x33)
	}
	scribble(g.messages, api.Message{Kind: 99, Bytes: []byte("dirt")})
	scribble(g.extents, api.Extent{At: 33, Size: 33})
}

// Rule 4: Size and Lay leave what they are given alone, be it good or not.
func TestGivenListsAreLeftAlone(t *testing.T) {
	lists := append(someMessages(), []api.Message{{Kind: 0, Bytes: []byte("x")}}, []api.Message{long(1, api.MaxBlob+1)}, make([]api.Message, api.MaxItems+1))
	for _, l := range lists {
		for _, room := range [][]api.Extent{nil, room(0, 16), room(50, 20, 40, 20), room(0, 17), room(200000, 30, 0, 200000), comb(300, 9000, 30, -30), comb(api.MaxItems+1, 0, 17, 17)} {
			g := handed(l, room)
			header.Size(g.l)
			header.Lay(g.l, g.room)
			g.wantLeft(t, l, room)
		}
	}
}

// Rule 4: blocks are new memory, each of them, and none of what was given.
func TestBlocksAreNewMemory(t *testing.T) {
	for _, l := range someMessages() {
		for _, all := range [][]api.Extent{room(7, 200000), room(300000, 17, 0, 20, 100, 33, 200, 200000), slices.Concat(comb(50, 10000, 40, -40), room(20000, 200000))} {
			want := blocksOf(linksOf(streamOf(l), all))
			g := handed(l, all)
			first, _ := header.Lay(g.l, g.room)
			second, _ := header.Lay(g.l, g.room)
			for i, x := range first {
				if bytes.IndexByte(x.Bytes[len(x.Bytes):cap(x.Bytes)], 0xee) >= 0 {
					t.Errorf("what stood behind a message's length is handed out")
				}
				scribble(x.Bytes, 0x77)
				if !sameBlocks(first[i+1:], want[i+1:]) {
					t.Errorf("block %d shares memory with a later one", i)
				}
			}
			for i, x := range first {
				if bytes.Count(x.Bytes, []byte{0x77}) != len(want[i].Bytes) {
					t.Errorf("block %d shares memory with another one", i)
				}
			}
			scribble(first, api.Block{At: -1})
			g.wantLeft(t, l, all)
			g.scribble()
			if !sameBlocks(second, want) {
				t.Errorf("Lay answers one memory twice, or what it was given")
			}
		}
	}
}

// Rule 4: Load leaves the bytes alone, whatever they are.
func TestGivenBytesAreLeftAlone(t *testing.T) {
	for _, l := range someMessages() {
		for _, all := range someRooms(len(streamOf(l))) {
			b := fileOf(blocksOf(linksOf(streamOf(l), all)))
			for _, size := range []int{len(b), len(b) - 1, len(b) / 2, 0} {
				part, whole := guarded(b[:size], 0xee)
				before := bytes.Clone(whole)
				header.Load(part, all[0])
				header.Load(part, all[len(all)-1])
				header.Load(part, api.Extent{At: 1, Size: 17})
				header.Load(part, api.Extent{At: -1, Size: 17})
				if !bytes.Equal(whole, before) {
					t.Fatal("what was given is changed")
				}
			}
		}
	}
}

// Rule 4: messages, their bytes and extents are new memory, each of them, and none of what was given.
func TestLoadedListsAreNewMemory(t *testing.T) {
	for _, l := range someMessages() {
		for _, all := range [][]api.Extent{room(7, 200000), room(300000, 17, 0, 20, 100, 33, 200, 200000), slices.Concat(comb(50, 10000, 40, -40), room(20000, 200000))} {
			links := linksOf(streamOf(l), all)
			part, whole := guarded(fileOf(blocksOf(links)), 0xee)
			before := bytes.Clone(whole)
			first, used, _ := header.Load(part, all[0])
			second, others, _ := header.Load(part, all[0])
			for i, m := range first {
				scribble(m.Bytes, 0x77)
				if !sameMessages(first[i+1:], l[i+1:]) {
					t.Errorf("message %d shares memory with a later one", i)
				}
			}
			for i, m := range first {
				if bytes.Count(m.Bytes, []byte{0x77}) != len(l[i].Bytes) {
					t.Errorf("message %d shares memory with another one", i)
				}
			}
			scribble(first, api.Message{Kind: -1})
			scribble(used, api.Extent{At: -1})
			if !bytes.Equal(whole, before) {
				t.Errorf("Load answers memory that it was given")
			}
			scribble(whole, 0x33)
			if !sameMessages(second, l) || !slices.Equal(others, all[:len(links)]) {
				t.Errorf("Load answers one memory twice, or what it was given")
			}
		}
	}
}
