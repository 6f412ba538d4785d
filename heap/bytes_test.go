package heap_test

import (
	"bytes"
	"encoding/binary"
	"hash/crc32"
	"maps"
	"math"
	"slices"
	"strings"
	"testing"

	"slabvault/api"
	"slabvault/heap"
)

// none is the entry of a number that no thing has.
const none = "\x00"

// entry tells the entry of a number that a thing has.
func entry(thing string) string {
	return "\x01" + string(binary.BigEndian.AppendUint32(nil, uint32(len(thing)))) + thing
}

// plain lays a count and entries down as chapter 6 says, without the sum: they need be no heap's.
func plain(count uint32, entries ...string) []byte {
	return append(binary.BigEndian.AppendUint32(nil, count), strings.Join(entries, "")...)
}

// plainOf tells the bytes without the sum of the heap that has just those things.
func plainOf(m model) []byte {
	var entries []byte
	count := 0
	for _, id := range slices.Sorted(maps.Keys(m)) {
		entries = append(entries, strings.Repeat(none, id-count)...)
		entries = append(entries, entry(m[id])...)
		count = id + 1
	}
	return plain(uint32(count), string(entries))
}

func sealed(b []byte) []byte {
	return binary.LittleEndian.AppendUint32(bytes.Clone(b), crc32.ChecksumIEEE(b))
}

// loaded tells the heap of bytes that are one's.
func loaded(t *testing.T, b []byte) *heap.Heap {
	t.Helper()
	h, e := heap.Load(b)
	if h == nil || e != api.OK {
		t.Fatalf("Load of %d: %.60x: error %d", len(b), b, int(e))
	}
	return h
}

// wantNoHeap asks that bytes are no heap's.
func wantNoHeap(t *testing.T, b []byte, errno api.Errno) {
	t.Helper()
	if h, e := heap.Load(b); h != nil || e != errno {
		t.Fatalf("Load of %d: %.60x: a heap: %t, error %d; want none, error %d", len(b), b, h != nil, int(e), int(errno))
	}
}

// someModels tells what heaps may have: nothing, things of many lengths, and gaps, also such as Add would leave none.
func someModels() []model {
	big := strings.Repeat("b", api.MaxBlob)
	return []model{
		{}, {0: ""}, {0: "a"}, {1: ""}, {1: "bc"}, {5: "x"}, {300: "y"}, {api.MaxItems: "z"}, {api.MaxItems + 5: ""}, {1 << 20: "far"},
		{0: "", 1: "", 2: ""}, {0: "\x00", 1: "\x01", 2: "\x02\x00\x00\x00\x01"}, {0: "a", 2: "c"}, {1: "b", 3: "d", 4: "e"}, {0: "a", 70000: "b"},
		{0: big}, {2: big, 4: big[1:]}, {0: big, 1: "", 9: "q", 10: big},
	}
}

// spreadOut tells so many things, whose numbers lie so far from one another.
func spreadOut(count, first, apart int) model {
	m := model{}
	for i := range count {
		m[first+i*apart] = textOf(i % 300)
	}
	return m
}

// P6.4, P6.5
func TestLoadOfHeaps(t *testing.T) {
	for _, m := range someModels() {
		b := sealed(plainOf(m))
		h := loaded(t, b)
		wantModel(t, h, m)
		wantModel(t, loaded(t, h.Bytes()), m)
	}
}

// P6.4: bytes, written out.
func TestBytesWrittenOut(t *testing.T) {
	h := heap.New()
	if want := []byte{0, 0, 0, 0, 0x1c, 0xdf, 0x44, 0x21}; !bytes.Equal(h.Bytes(), want) {
		t.Errorf("Bytes of nothing: %x; want %x", h.Bytes(), want)
	}
	for i, thing := range []string{"", "ab", "c"} {
		wantAdd(t, h, thing, i, api.OK)
	}
	want := sealed([]byte("\x00\x00\x00\x03" + "\x01\x00\x00\x00\x00" + "\x01\x00\x00\x00\x02ab" + "\x01\x00\x00\x00\x01c"))
	if !bytes.Equal(h.Bytes(), want) {
		t.Errorf("Bytes: %x; want %x", h.Bytes(), want)
	}
}

// P6.4: where the greatest numbers were dropped, the bytes count up to the greatest that a thing has.
func TestBytesBehindDropsOfTheGreatest(t *testing.T) {
	h, m := filled(t, 6)
	wantDrop(t, h, 3, api.OK)
	delete(m, 3)
	for _, x := range []struct{ drop, count int }{{5, 5}, {4, 3}, {0, 3}, {2, 2}, {1, 0}} {
		wantDrop(t, h, x.drop, api.OK)
		delete(m, x.drop)
		wantModel(t, h, m)
		if got := binary.BigEndian.Uint32(h.Bytes()); got != uint32(x.count) {
			t.Errorf("behind Drop(%d) the bytes count %d; want %d", x.drop, got, x.count)
		}
		wantModel(t, loaded(t, h.Bytes()), m)
	}
}

// P6.4: numbers that Add would not give, and what Add gives behind them.
func TestAddBehindLoad(t *testing.T) {
	for _, m := range someModels() {
		h := loaded(t, sealed(plainOf(m)))
		for i := range 12 {
			id := m.free()
			m[id] = textOf(i)
			wantAdd(t, h, m[id], id, api.OK)
		}
		wantModel(t, h, m)
		greatest := slices.Max(slices.Collect(maps.Keys(m)))
		wantDrop(t, h, greatest, api.OK)
		delete(m, greatest)
		wantModel(t, h, m)
	}
}

// P6.1, P6.4: as many things as may be, wherever their numbers lie; one more is no heap's.
func TestLoadUpToTheLastThing(t *testing.T) {
	for _, x := range []struct{ first, apart int }{{0, 1}, {1, 1}, {7, 1}, {0, 2}, {3, 5}} {
		m := spreadOut(api.MaxItems, x.first, x.apart)
		h := loaded(t, sealed(plainOf(m)))
		wantModel(t, h, m)
		wantAdd(t, h, "", 0, api.ErrFull)
		wantAdd(t, h, string(make([]byte, api.MaxBlob+1)), 0, api.ErrBig)
		last := x.first + (api.MaxItems-1)*x.apart
		wantDrop(t, h, last, api.OK)
		delete(m, last)
		id := m.free()
		wantAdd(t, h, "room", id, api.OK)
		wantAdd(t, h, "", 0, api.ErrFull)
		m[id] = "room"
		wantModel(t, h, m)
		wantNoHeap(t, sealed(plainOf(spreadOut(api.MaxItems+1, x.first, x.apart))), api.ErrCorrupt)
	}
	one := spreadOut(api.MaxItems-1, 1, 1)
	h := loaded(t, sealed(plainOf(one)))
	wantAdd(t, h, "the last", 0, api.OK)
	wantAdd(t, h, "one more", 0, api.ErrFull)
}

// P6.5: a heap and what is loaded of its bytes go on alike, whatever is done to both.
func TestLoadedHeapsGoOn(t *testing.T) {
	for _, m := range someModels() {
		h := loaded(t, sealed(plainOf(m)))
		g := loaded(t, h.Bytes())
		for i, step := range []int{-1, 0, 3, -1, -1, 1, 1, -1, 2, 0, -1, -1, -1, 70000, -1} {
			doStep(t, h, maps.Clone(m), i, step)
			doStep(t, g, m, i, step)
			wantModel(t, h, m)
			wantModel(t, g, m)
		}
	}
}

// P6.4: Bytes leaves the heap as it is.
func TestBytesAgain(t *testing.T) {
	h, m := filled(t, 5)
	wantDrop(t, h, 2, api.OK)
	delete(m, 2)
	for range 3 {
		wantModel(t, h, m)
	}
	wantAdd(t, h, "two", 2, api.OK)
}

// P6.4: Unseal's errors: too few bytes, and bytes that are cut off or not sealed.
func TestLoadOfWhatIsNotSealed(t *testing.T) {
	for size := range 4 {
		wantNoHeap(t, make([]byte, size), api.ErrShort)
	}
	for _, m := range []model{{}, {0: "a"}, {1: "bc"}, {0: "", 2: "q"}} {
		b := sealed(plainOf(m))
		for size := 4; size < len(b); size++ {
			wantNoHeap(t, b[:size], api.ErrCorrupt)
		}
		wantNoHeap(t, append(bytes.Clone(b), 0), api.ErrCorrupt)
		wantNoHeap(t, plainOf(m), api.ErrCorrupt)
	}
}

// P6.6: one byte is any other one.
func TestTurnedBytesAreNoHeaps(t *testing.T) {
	for _, m := range []model{{}, {0: ""}, {0: "a"}, {1: "bc"}, {0: "a", 1: "b", 3: "\x00\x01"}, {0: "\x01\x00\x00\x00\x00", 9: ""}} {
		b := sealed(plainOf(m))
		for place := range b {
			for x := range 256 {
				turned := bytes.Clone(b)
				turned[place] = byte(x)
				if !bytes.Equal(turned, b) {
					wantNoHeap(t, turned, api.ErrCorrupt)
				}
			}
		}
	}
	b := sealed(plainOf(model{0: strings.Repeat("long", 5000), 3: "x"}))
	for place := 0; place < len(b); place += 97 {
		turned := bytes.Clone(b)
		turned[place] ^= 1 << (place % 8)
		wantNoHeap(t, turned, api.ErrCorrupt)
	}
}

// P6.4: bytes whose sum is theirs, but whose count is not the one of the numbers behind it.
func TestLoadOfOtherCounts(t *testing.T) {
	entries := []string{entry("a"), none, entry("")}
	wantModel(t, loaded(t, sealed(plain(3, entries...))), model{0: "a", 2: ""})
	for _, count := range []uint32{0, 1, 2, 4, 5, 256, 3 << 8, 3 << 24, api.MaxItems, 1<<31 + 3, math.MaxInt32, 1 << 31, math.MaxUint32} {
		wantNoHeap(t, sealed(plain(count, entries...)), api.ErrCorrupt)
	}
	for _, count := range []uint32{1, 2, api.MaxItems, api.MaxItems + 1, math.MaxInt32, math.MaxUint32} {
		wantNoHeap(t, sealed(plain(count)), api.ErrCorrupt)
		wantNoHeap(t, sealed(plain(count, none)), api.ErrCorrupt)
	}
	wantNoHeap(t, sealed(plain(0, none)), api.ErrCorrupt)
	wantNoHeap(t, sealed(plain(0, entry("a"))), api.ErrCorrupt)
	for size := range 4 {
		wantNoHeap(t, sealed(make([]byte, size)), api.ErrCorrupt)
	}
	// A count with the lowest byte first.
	wantNoHeap(t, sealed(append([]byte{1, 0, 0, 0}, entry("a")...)), api.ErrCorrupt)
}

// P6.4: bytes whose sum is theirs, but the last number is no thing's.
func TestLoadOfALastNumberThatNoThingHas(t *testing.T) {
	for _, entries := range [][]string{{none}, {none, none}, {entry("a"), none}, {entry("a"), none, none}, {none, entry(""), none}, slices.Repeat([]string{none}, 1000)} {
		wantNoHeap(t, sealed(plain(uint32(len(entries)), entries...)), api.ErrCorrupt)
	}
}

// P6.4: bytes whose sum is theirs, but a number's entry begins with another byte than 0 and 1.
func TestLoadOfOtherMarks(t *testing.T) {
	for x := range 256 {
		mark := string([]byte{byte(x)})
		if x > 1 {
			wantNoHeap(t, sealed(plain(1, mark+entry("a")[1:])), api.ErrCorrupt)
			wantNoHeap(t, sealed(plain(2, entry("a"), mark+entry("b")[1:])), api.ErrCorrupt)
			wantNoHeap(t, sealed(plain(2, mark+entry("a")[1:], entry("b"))), api.ErrCorrupt)
			wantNoHeap(t, sealed(plain(2, mark, entry("b"))), api.ErrCorrupt)
			wantNoHeap(t, sealed(plain(2, entry("b"), mark)), api.ErrCorrupt)
		}
	}
}

// P6.4: bytes whose sum is theirs, but a thing ends beyond them, or is too great, or they go on behind the last one.
func TestLoadOfOtherLengths(t *testing.T) {
	for _, m := range []model{{0: "a"}, {0: ""}, {2: "bcd"}, {0: "a", 1: "bcdefgh"}, {0: "a", 3: strings.Repeat("b", api.MaxBlob)}} {
		b := plainOf(m)
		for less := 1; less < min(len(b), 30); less++ {
			wantNoHeap(t, sealed(b[:len(b)-less]), api.ErrCorrupt)
		}
		for more := 1; more < 12; more++ {
			wantNoHeap(t, sealed(append(bytes.Clone(b), make([]byte, more)...)), api.ErrCorrupt)
		}
		wantNoHeap(t, sealed(append(bytes.Clone(b), entry("z")...)), api.ErrCorrupt)
		wantNoHeap(t, sealed(sealed(b)), api.ErrCorrupt)
	}
	for _, size := range []int{api.MaxBlob + 1, api.MaxBlob + 2, 2 * api.MaxBlob, 1 << 20} {
		great := entry(strings.Repeat("g", size))
		wantNoHeap(t, sealed(plain(1, great)), api.ErrCorrupt)
		wantNoHeap(t, sealed(plain(2, entry("a"), great)), api.ErrCorrupt)
		wantNoHeap(t, sealed(plain(3, great, none, entry("a"))), api.ErrCorrupt)
	}
	for _, size := range []uint32{2, api.MaxBlob, api.MaxBlob + 1, 1 << 31, math.MaxInt32, math.MaxUint32} {
		far := "\x01" + string(binary.BigEndian.AppendUint32(nil, size)) + "a"
		wantNoHeap(t, sealed(plain(1, far)), api.ErrCorrupt)
	}
}

// modelOf tells what the heap of unsealed bytes has, read as chapter 6 says, entry by entry; false, if no heap has them.
func modelOf(b []byte) (model, bool) {
	if len(b) < 4 {
		return nil, false
	}
	count, rest, m := int(binary.BigEndian.Uint32(b)), b[4:], model{}
	for id := range count {
		if len(rest) > 0 && rest[0] == 0 && id < count-1 {
			rest = rest[1:]
			continue
		}
		if len(rest) < 5 || rest[0] != 1 {
			return nil, false
		}
		size := int(binary.BigEndian.Uint32(rest[1:]))
		if size > api.MaxBlob || size > len(rest)-5 {
			return nil, false
		}
		m[id], rest = string(rest[5:5+size]), rest[5+size:]
	}
	return m, len(rest) == 0 && len(m) <= api.MaxItems
}

// wantAsModel asks that Load takes bytes, sealed, just if they are a heap's, and tells which are.
func wantAsModel(t *testing.T, b []byte) bool {
	t.Helper()
	m, is := modelOf(b)
	if !is {
		wantNoHeap(t, sealed(b), api.ErrCorrupt)
		return false
	}
	wantModel(t, loaded(t, sealed(b)), m)
	return true
}

// P6.4: of what was sealed, one byte is any other one: what is loaded is a heap with just those bytes, and nothing else is loaded.
func TestLoadTakesOnlyHeaps(t *testing.T) {
	good := 0
	for _, m := range []model{{}, {0: "a"}, {1: "bc"}, {0: "\x01\x00\x00\x00\x00", 2: "\x00\x00"}, {0: "", 1: "abcdefg", 4: "\x01\x00\x00\x00\x01"}} {
		b := plainOf(m)
		for place := range b {
			for x := range 256 {
				turned := bytes.Clone(b)
				turned[place] = byte(x)
				if wantAsModel(t, turned) {
					good++
				}
			}
		}
	}
	if good < 1000 {
		t.Errorf("only %d are loaded", good)
	}
}

// P6.4: all rows of a few bytes 0, 1 and 2 behind every small count.
func TestLoadOfAllShortRows(t *testing.T) {
	good := 0
	for size := range 9 {
		rows := 1
		for range size {
			rows *= 3
		}
		for row := range rows {
			b := make([]byte, 4, 4+size)
			for range size {
				b = append(b, byte(row%3))
				row /= 3
			}
			for count := range 5 {
				b[3] = byte(count)
				if wantAsModel(t, b) {
					good++
				}
			}
		}
	}
	if good < 20 {
		t.Errorf("only %d are loaded", good)
	}
}
