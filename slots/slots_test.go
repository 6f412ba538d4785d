package slots_test

import (
	"bytes"
	"encoding/binary"
	"encoding/hex"
	"hash/crc32"
	"math"
	"testing"

	"slabvault/api"
	"slabvault/slots"
	"slabvault/store"
)

// generations are some that lie at the edges of bytes, of halves and of Go's types.
var generations = []uint64{0, 1, 2, 3, 255, 256, 1<<31 - 1, 1 << 31, 1<<32 - 1, 1 << 32, 1<<56 + 3, math.MaxInt64, 1 << 63, math.MaxUint64 - 1, math.MaxUint64}

// numbers are some that At and Size may be.
var numbers = []int{0, 1, 31, 32, 63, 64, 255, 256, 65535, 65536, api.MaxFile - 1, api.MaxFile}

// badNumbers are some that they may not be: also such as would be good ones if only their low bytes were looked at.
var badNumbers = []int{math.MinInt, math.MinInt + 64, -1 << 32, -64, -1, api.MaxFile + 1, 1 << 31, 1<<32 - 1, 1 << 32, 1<<32 + 64, math.MaxInt}

// roots tells all that may be made of generations and numbers.
func roots() []api.Root {
	var out []api.Root
	for _, generation := range generations {
		for _, at := range numbers {
			for _, size := range numbers {
				out = append(out, api.Root{Generation: generation, At: at, Size: size})
			}
		}
	}
	return out
}

// unsealed lays a root's numbers down as chapter 4 says, without the sum; the numbers may be any of 4 bytes.
func unsealed(generation uint64, at, size uint32) []byte {
	b := make([]byte, 28)
	copy(b, "SLAB")
	binary.LittleEndian.PutUint64(b[4:], generation)
	binary.LittleEndian.PutUint32(b[16:], at)
	binary.LittleEndian.PutUint32(b[20:], size)
	return b
}

func sealed(b []byte) []byte {
	return binary.LittleEndian.AppendUint32(bytes.Clone(b), crc32.ChecksumIEEE(b))
}

// told tells a root's bytes as chapter 4 says.
func told(r api.Root) []byte {
	return sealed(unsealed(r.Generation, uint32(r.At), uint32(r.Size)))
}

// mixed tells so many bytes that are not all alike, others for each seed.
func mixed(seed, size int) []byte {
	out := make([]byte, size)
	state := uint32(seed)*2654435761 + 12345
	for i := range out {
		state = state*1664525 + 1013904223
		out[i] = byte(state >> 24)
	}
	return out
}

// turned tells bytes of which one bit is another one.
func turned(b []byte, bit int) []byte {
	out := bytes.Clone(b)
	out[bit/8] ^= 1 << (bit % 8)
	return out
}

// joined tells pieces as one.
func joined(pieces ...[]byte) []byte { return bytes.Join(pieces, nil) }

func want(t *testing.T, what string, got, want api.Errno) {
	t.Helper()
	if got != want {
		t.Fatalf("%s: error %d, not %d", what, got, want)
	}
}

func wantBytes(t *testing.T, what string, got, want []byte) {
	t.Helper()
	if !bytes.Equal(got, want) {
		t.Fatalf("%s: %x, not %x", what, got, want)
	}
}

// wantLoad asks what Load answers: with an error the zero root.
func wantLoad(t *testing.T, what string, b []byte, root api.Root, errno api.Errno) {
	t.Helper()
	r, e := slots.Load(b)
	want(t, what, e, errno)
	if r != root {
		t.Fatalf("%s: Load is %v, not %v", what, r, root)
	}
}

// wantBest asks what Best answers: without a root the zero one.
func wantBest(t *testing.T, what string, f *store.File, root api.Root, is bool, errno api.Errno) {
	t.Helper()
	r, found, e := slots.Best(f)
	want(t, what, e, errno)
	if r != root || found != is {
		t.Fatalf("%s: Best is %v, %t, not %v, %t", what, r, found, root, is)
	}
}

func wantNone(t *testing.T, what string, f *store.File) {
	t.Helper()
	wantBest(t, what, f, api.Root{}, false, api.OK)
}

// of makes a file that may be made.
func of(t *testing.T, b []byte, most int) *store.File {
	t.Helper()
	f := store.Of(b, most)
	if f == nil {
		t.Fatalf("Of(%d bytes, %d) is nil", len(b), most)
	}
	return f
}

func put(t *testing.T, f *store.File, r api.Root) {
	t.Helper()
	want(t, "Put", slots.Put(f, r), api.OK)
}

func plan(t *testing.T, f *store.File, n int) {
	t.Helper()
	want(t, "Cut", f.Cut(n), api.OK)
}

// switchOff makes a file's power fail, and leaves its bytes: the write is cut ahead of its first raw write.
func switchOff(t *testing.T, f *store.File) {
	t.Helper()
	plan(t, f, 0)
	want(t, "a write that is cut", f.Write(0, []byte{1}), api.ErrPower)
}

// wantSame asks that nothing can be seen in a file that was not in its copy of before.
func wantSame(t *testing.T, what string, f, before *store.File) {
	t.Helper()
	wantBytes(t, what, f.Bytes(), before.Bytes())
	wantRaws(t, what, f.Raws(), before.Raws())
	if f.On() != before.On() || f.Most() != before.Most() || ahead(f) != ahead(before) {
		t.Fatalf("%s: another power, most or cut", what)
	}
}

func wantRaws(t *testing.T, what string, got, want []api.Raw) {
	t.Helper()
	same := len(got) == len(want)
	for i := range min(len(got), len(want)) {
		same = same && got[i].At == want[i].At && bytes.Equal(got[i].Bytes, want[i].Bytes)
	}
	if !same {
		t.Fatalf("%s: raw writes %v, not %v", what, got, want)
	}
}

// ahead tells how many raw writes of a copy are done till its power fails, up to some few.
func ahead(f *store.File) int {
	f = f.Copy()
	f.Start()
	for n := range 12 {
		if f.Write(0, []byte{0}) != api.OK {
			return n
		}
	}
	return 12
}

// P4.1
func TestBytesAreWhatTheChapterSays(t *testing.T) {
	for _, r := range roots() {
		b, e := slots.Bytes(r)
		want(t, "Bytes", e, api.OK)
		wantBytes(t, "Bytes", b, told(r))
	}
}

// P4.1: one root's bytes, written out.
func TestBytesWrittenOut(t *testing.T) {
	b, e := slots.Bytes(api.Root{Generation: 0x0807060504030201, At: 0x3f2e1d, Size: 0x3c2b1a})
	want(t, "Bytes", e, api.OK)
	ahead, _ := hex.DecodeString("534c4142" + "0102030405060708" + "00000000" + "1d2e3f00" + "1a2b3c00" + "00000000")
	wantBytes(t, "Bytes", b, sealed(ahead))
	if len(b) != api.SlotBytes {
		t.Errorf("%d bytes", len(b))
	}
}

// P4.1: At and Size may be 0 to MaxFile, and no other.
func TestBytesRefuses(t *testing.T) {
	refused := func(r api.Root) {
		b, e := slots.Bytes(r)
		want(t, "Bytes", e, api.ErrArg)
		wantBytes(t, "Bytes", b, nil)
	}
	for _, generation := range generations {
		for _, bad := range badNumbers {
			for _, other := range append(numbers, badNumbers...) {
				refused(api.Root{Generation: generation, At: bad, Size: other})
				refused(api.Root{Generation: generation, At: other, Size: bad})
			}
		}
	}
}

// P4.1
func TestLoadTellsTheRoot(t *testing.T) {
	for _, r := range roots() {
		wantLoad(t, "a root's bytes", told(r), r, api.OK)
	}
}

// P4.1: ErrShort comes ahead of ErrCorrupt, and hangs on the length alone.
func TestLoadOfFewBytes(t *testing.T) {
	wantLoad(t, "nil", nil, api.Root{}, api.ErrShort)
	whole := told(api.Root{Generation: 1, At: 64, Size: 9})
	for size := range 32 {
		wantLoad(t, "the first of a root's bytes", whole[:size], api.Root{}, api.ErrShort)
		wantLoad(t, "noughts", make([]byte, size), api.Root{}, api.ErrShort)
		wantLoad(t, "others", mixed(size, size), api.Root{}, api.ErrShort)
		wantLoad(t, "sealed ones", sealed(mixed(size, size))[:size], api.Root{}, api.ErrShort)
	}
	wantLoad(t, "just SlotBytes", whole[:32], api.Root{Generation: 1, At: 64, Size: 9}, api.OK)
}

// P4.1: what stands behind the first SlotBytes does not count.
func TestLoadOfMoreBytes(t *testing.T) {
	a, b := api.Root{Generation: 6, At: 64, Size: 9}, api.Root{Generation: 7, At: 100, Size: 5}
	for _, more := range []int{1, 4, 31, 32, 33, 1000} {
		wantLoad(t, "others behind", joined(told(a), mixed(more, more)), a, api.OK)
		wantLoad(t, "noughts behind", joined(told(a), make([]byte, more)), a, api.OK)
		wantLoad(t, "noughts ahead", joined(make([]byte, more), told(a)), api.Root{}, api.ErrCorrupt)
	}
	wantLoad(t, "a root behind", joined(told(a), told(b)), a, api.OK)
	wantLoad(t, "a root behind bytes that are none", joined(turned(told(a), 0), told(b)), api.Root{}, api.ErrCorrupt)
	wantLoad(t, "the sum of more than SlotBytes", sealed(joined(unsealed(1, 2, 3), []byte{1, 2, 3, 4})), api.Root{}, api.ErrCorrupt)
}

// P4.1: bytes whose sum is theirs, but that are no root's.
func TestLoadOfSealedBytes(t *testing.T) {
	good := unsealed(5, 64, 9)
	wantLoad(t, "a root's", sealed(good), api.Root{Generation: 5, At: 64, Size: 9}, api.OK)
	for _, place := range []int{0, 1, 2, 3, 12, 13, 14, 15, 24, 25, 26, 27} {
		for x := range 256 {
			b := bytes.Clone(good)
			b[place] = byte(x)
			if !bytes.Equal(b, good) {
				wantLoad(t, "another letter, or no nought", sealed(b), api.Root{}, api.ErrCorrupt)
			}
		}
	}
	for _, letters := range []string{"BALS", "slab", "\x00\x00\x00\x00", "SLA ", "LABS"} {
		wantLoad(t, "other letters", sealed(joined([]byte(letters), good[4:])), api.Root{}, api.ErrCorrupt)
	}
	for _, generation := range generations {
		for _, bad := range []uint32{api.MaxFile + 1, api.MaxFile * 2, 1 << 24, 1<<31 - 1, 1 << 31, math.MaxUint32} {
			for _, other := range []uint32{0, 64, api.MaxFile, bad} {
				wantLoad(t, "At above MaxFile", sealed(unsealed(generation, bad, other)), api.Root{}, api.ErrCorrupt)
				wantLoad(t, "Size above MaxFile", sealed(unsealed(generation, other, bad)), api.Root{}, api.ErrCorrupt)
			}
		}
	}
	wantLoad(t, "noughts", sealed(make([]byte, 28)), api.Root{}, api.ErrCorrupt)
}

// P4.1: bytes whose sum is not theirs.
func TestLoadOfUnsealedBytes(t *testing.T) {
	for _, r := range roots() {
		ahead := told(r)[:28]
		sum := told(r)[28:]
		for _, other := range [][]byte{
			{0, 0, 0, 0},
			{0xff, 0xff, 0xff, 0xff},
			{^sum[0], ^sum[1], ^sum[2], ^sum[3]},
			{sum[3], sum[2], sum[1], sum[0]},
		} {
			if !bytes.Equal(other, sum) {
				wantLoad(t, "another sum", joined(ahead, other), api.Root{}, api.ErrCorrupt)
			}
		}
	}
	for _, b := range [][]byte{make([]byte, 32), bytes.Repeat([]byte{0xff}, 32), []byte("SLABSLABSLABSLABSLABSLABSLABSLAB")} {
		wantLoad(t, "no root's", b, api.Root{}, api.ErrCorrupt)
	}
	for seed := range 2000 {
		wantLoad(t, "any bytes", mixed(seed, 32), api.Root{}, api.ErrCorrupt)
	}
}

// P4.2: of a file of each length, whose bytes are those of two roots and of a third behind them.
func TestBestOfEachLength(t *testing.T) {
	even, odd := api.Root{Generation: 6, At: 64, Size: 9}, api.Root{Generation: 7, At: 100, Size: 5}
	behind := told(api.Root{Generation: 100, At: 70, Size: 7})
	whole := joined(told(even), told(odd), behind, told(api.Root{Generation: 101}))
	for size := range len(whole) + 1 {
		f := of(t, whole[:size], api.MaxFile)
		switch {
		case size < 32:
			wantNone(t, "a file without a whole slot", f)
		case size < 64:
			wantBest(t, "a file with slot 0 alone", f, even, true, api.OK)
		default:
			wantBest(t, "a file with both slots", f, odd, true, api.OK)
		}
	}
}

// P4.2: whatever stands in the two slots.
func TestBestOfEachPair(t *testing.T) {
	for _, even := range []uint64{0, 2, 4, 1 << 32, 1 << 63, math.MaxUint64 - 1} {
		for _, odd := range []uint64{1, 3, 5, 1<<32 + 1, 1<<63 + 1, math.MaxInt64, math.MaxUint64} {
			a, b := api.Root{Generation: even, At: 64, Size: 9}, api.Root{Generation: odd, At: 100, Size: 5}
			best := a
			if odd > even {
				best = b
			}
			wantBest(t, "both stand", of(t, joined(told(a), told(b)), 64), best, true, api.OK)
			for _, none := range [][]byte{make([]byte, 32), mixed(1, 32), turned(told(a), 255), turned(told(b), 33), sealed(make([]byte, 28))} {
				wantBest(t, "slot 0 alone", of(t, joined(told(a), none), 64), a, true, api.OK)
				wantBest(t, "slot 1 alone", of(t, joined(none, told(b)), 64), b, true, api.OK)
				wantNone(t, "none", of(t, joined(none, none), 64))
				wantNone(t, "both in the other's slot", of(t, joined(told(b), told(a)), 64))
				wantNone(t, "one in the other's slot", of(t, joined(told(b), none), 64))
				wantNone(t, "one in the other's slot", of(t, joined(none, told(a)), 64))
			}
			wantBest(t, "one root twice", of(t, joined(told(a), told(a)), 64), a, true, api.OK)
			wantBest(t, "one root twice", of(t, joined(told(b), told(b)), 64), b, true, api.OK)
		}
	}
}

// P4.2: a root in the other's slot does not count, even if its Generation is the greater one.
func TestBestPassesRootsInTheWrongSlot(t *testing.T) {
	a, b := api.Root{Generation: 6, At: 64, Size: 9}, api.Root{Generation: 7, At: 100, Size: 5}
	greatEven, greatOdd := api.Root{Generation: 1000, At: 1, Size: 2}, api.Root{Generation: 1001, At: 3, Size: 4}
	wantBest(t, "a greater odd one in slot 0", of(t, joined(told(greatOdd), told(b)), 64), b, true, api.OK)
	wantBest(t, "a greater even one in slot 1", of(t, joined(told(a), told(greatEven)), 64), a, true, api.OK)
	wantNone(t, "a slot alone", of(t, told(b), 64))
	for _, gap := range []int{1, 8, 16, 31, 33, 48, 64, 96} {
		wantNone(t, "roots that stand in no slot", of(t, joined(make([]byte, gap), told(a)), 200))
		wantNone(t, "roots that stand in no slot", of(t, joined(make([]byte, gap), told(b)), 200))
	}
}

// P4.2: the zero root is a root like others.
func TestBestTellsTheZeroRoot(t *testing.T) {
	f := store.New(64)
	put(t, f, api.Root{})
	wantBest(t, "the zero root alone", f, api.Root{}, true, api.OK)
	wantBest(t, "the zero root, and none", of(t, joined(told(api.Root{}), make([]byte, 32)), 64), api.Root{}, true, api.OK)
	put(t, f, api.Root{Generation: 1})
	wantBest(t, "the next one", f, api.Root{Generation: 1}, true, api.OK)
}

// P4.2: the errors, ErrNil ahead of ErrPower, and none of what stands there.
func TestBestRefuses(t *testing.T) {
	wantBest(t, "nil", nil, api.Root{}, false, api.ErrNil)
	wantBest(t, "plain", &store.File{}, api.Root{}, false, api.ErrNil)
	whole := joined(told(api.Root{Generation: 6, At: 64, Size: 9}), told(api.Root{Generation: 7, At: 100, Size: 5}))
	for _, size := range []int{0, 31, 32, 63, 64} {
		f := of(t, whole[:size], 100)
		switchOff(t, f)
		before := f.Copy()
		wantBest(t, "off", f, api.Root{}, false, api.ErrPower)
		wantSame(t, "Best while the power is off", f, before)
		f.Start()
		_, is, e := slots.Best(f)
		want(t, "on again", e, api.OK)
		if is != (size >= 32) {
			t.Errorf("on again, %d bytes: %t", size, is)
		}
	}
}

// P4.2: Best does no raw write, so that no cut can happen in it.
func TestBestChangesNothing(t *testing.T) {
	for _, size := range []int{0, 31, 32, 63, 64, 90} {
		f := of(t, mixed(size, size), 100)
		plan(t, f, 0)
		before := f.Copy()
		for range 3 {
			wantNone(t, "any bytes", f)
		}
		wantSame(t, "Best", f, before)
	}
}

// written tells what one Write of a Put lays down, and where, in a file of so many bytes.
func written(size int, r api.Root) (at int, b []byte) {
	slot := 32 * int(r.Generation%2)
	if size < slot {
		return size, joined(make([]byte, slot-size), told(r))
	}
	return slot, told(r)
}

// P4.3: into a file of each length, that ends ahead of the slot, within it and behind it.
func TestPutIsOneWrite(t *testing.T) {
	for size := range 100 {
		for _, r := range []api.Root{{}, {Generation: 1, At: 64, Size: 9}, {Generation: 2, At: api.MaxFile, Size: api.MaxFile}, {Generation: math.MaxUint64}, {Generation: math.MaxUint64 - 1, At: 1}} {
			f := of(t, mixed(7, size), 100)
			model := f.Copy()
			at, b := written(size, r)
			want(t, "Write", model.Write(at, b), api.OK)
			put(t, f, r)
			wantSame(t, "Put", f, model)
			wantLoad(t, "the slot", f.Bytes()[32*int(r.Generation%2):], r, api.OK)
		}
	}
}

// P4.3: a root is put whatever stands there: Put looks at no root.
func TestPutOverAnything(t *testing.T) {
	f := of(t, mixed(3, 90), 100)
	for _, generation := range []uint64{9, 9, 3, 8, 2, 0, 1, math.MaxUint64, 5} {
		r := api.Root{Generation: generation, At: int(generation % 1000), Size: 11}
		expected := f.Bytes()
		copy(expected[32*(generation%2):], told(r))
		put(t, f, r)
		wantBytes(t, "Put", f.Bytes(), expected)
	}
}

// P4.3: ErrNil, then Bytes' error, then Write's: ErrPower ahead of ErrBig.
func TestPutRefusesInOrder(t *testing.T) {
	good, bad := api.Root{Generation: 1, At: 64, Size: 9}, api.Root{Generation: 1, At: 64, Size: -1}
	for name, f := range map[string]*store.File{"nil": nil, "plain": {}} {
		want(t, name, slots.Put(f, good), api.ErrNil)
		want(t, name, slots.Put(f, bad), api.ErrNil)
		if f.Len() != 0 || f.On() {
			t.Errorf("%s has become a file", name)
		}
	}
	for _, most := range []int{1, 31, 32, 63, 64, 100} {
		for _, cut := range []bool{false, true} {
			f := store.New(most)
			if cut {
				plan(t, f, 0)
			}
			wantPutRefused(t, f, bad, api.ErrArg)
			if most < 64 {
				wantPutRefused(t, f, good, api.ErrBig)
			}
			switchOff(t, f)
			wantPutRefused(t, f, bad, api.ErrArg)
			wantPutRefused(t, f, good, api.ErrPower)
		}
	}
}

// wantPutRefused asks for an error behind which all is as it was.
func wantPutRefused(t *testing.T, f *store.File, r api.Root, errno api.Errno) {
	t.Helper()
	before := f.Copy()
	want(t, "Put", slots.Put(f, r), errno)
	wantSame(t, "a Put that is refused", f, before)
}

// P4.3: Bytes' error, for each number that may not be.
func TestPutRefusesWhatBytesRefuses(t *testing.T) {
	f := of(t, mixed(1, 40), 100)
	plan(t, f, 0)
	for _, generation := range generations {
		for _, bad := range badNumbers {
			wantPutRefused(t, f, api.Root{Generation: generation, At: bad}, api.ErrArg)
			wantPutRefused(t, f, api.Root{Generation: generation, Size: bad}, api.ErrArg)
		}
	}
}

// P4.3: where the slot's last byte would lie at most or beyond, nothing is laid down, not even the noughts.
func TestPutWithoutRoom(t *testing.T) {
	for most := range 70 {
		for slot := range 2 {
			for _, size := range []int{0, most / 2, most} {
				f, r := of(t, mixed(most, size), most), api.Root{Generation: uint64(4 + slot), At: 1, Size: 2}
				if most < 32*(slot+1) {
					wantPutRefused(t, f, r, api.ErrBig)
					continue
				}
				put(t, f, r)
				wantLoad(t, "the slot", f.Bytes()[32*slot:], r, api.OK)
			}
		}
	}
}

// P4.3: a cut behind each number of raw writes that a Put has, in a file of each length.
func TestPutThatIsCut(t *testing.T) {
	for size := range 80 {
		for _, r := range []api.Root{{Generation: 4, At: 65, Size: 9}, {Generation: 5, At: 66, Size: 10}} {
			at, b := written(size, r)
			count := (len(b) + 15) / 16
			for n := range count + 2 {
				f := of(t, mixed(7, size), 100)
				plan(t, f, n)
				model := f.Copy()
				errno := model.Write(at, b)
				want(t, "Put", slots.Put(f, r), errno)
				wantSame(t, "a Put that is cut", f, model)
				if (errno == api.ErrPower) != (n < count) {
					t.Fatalf("%d raw writes, cut behind %d: error %d", count, n, errno)
				}
				if done := f.Raws(); len(done) != min(n, count) {
					t.Fatalf("%d raw writes, cut behind %d: %d done", count, n, len(done))
				}
			}
		}
	}
}

// P4.4
func TestThereAndBack(t *testing.T) {
	for _, r := range roots() {
		b, e := slots.Bytes(r)
		want(t, "Bytes", e, api.OK)
		wantLoad(t, "Load of Bytes", b, r, api.OK)
	}
}

// P4.4
func TestOneBitTurned(t *testing.T) {
	for _, r := range roots() {
		b, _ := slots.Bytes(r)
		for bit := range 8 * len(b) {
			wantLoad(t, "one bit turned", turned(b, bit), api.Root{}, api.ErrCorrupt)
		}
	}
}

// P4.4: such bytes are no root for Best either.
func TestOneBitTurnedInTheFile(t *testing.T) {
	f := store.New(64)
	old, young := api.Root{Generation: 7, At: 64, Size: 9}, api.Root{Generation: 8, At: 100, Size: 5}
	put(t, f, old)
	put(t, f, young)
	for bit := range 8 * 32 {
		wantBest(t, "a bit of slot 0", of(t, turned(f.Bytes(), bit), 64), old, true, api.OK)
	}
	for bit := 8 * 32; bit < 8*64; bit++ {
		wantBest(t, "a bit of slot 1", of(t, turned(f.Bytes(), bit), 64), young, true, api.OK)
	}
}

// Example 1 of the chapter.
func TestExample(t *testing.T) {
	f := store.New(1000)
	wantNone(t, "an empty file", f)
	first, second := api.Root{Generation: 1, At: 64, Size: 9}, api.Root{Generation: 2, At: 100, Size: 5}
	put(t, f, first)
	wantBytes(t, "the first one", f.Bytes(), joined(make([]byte, 32), told(first)))
	if len(f.Raws()) != 4 {
		t.Errorf("%d raw writes", len(f.Raws()))
	}
	wantBest(t, "the first one", f, first, true, api.OK)
	put(t, f, second)
	wantBytes(t, "the second one", f.Bytes(), joined(told(second), told(first)))
	wantBest(t, "the second one", f, second, true, api.OK)
	want(t, "the third one", slots.Put(f, api.Root{Generation: 3, At: -1}), api.ErrArg)
	wantBest(t, "the second one still", f, second, true, api.OK)
}

// chains are rows of roots by their Generations: such as change much from one to the next, little, and not at all.
func chains() []func(generation uint64) api.Root {
	return []func(generation uint64) api.Root{
		func(g uint64) api.Root { return api.Root{Generation: g} },
		func(g uint64) api.Root { return api.Root{Generation: g, At: api.MaxFile, Size: api.MaxFile} },
		func(g uint64) api.Root { return api.Root{Generation: g, At: 64, Size: int(g)} },
		func(g uint64) api.Root { return api.Root{Generation: g, At: 64 + int(g%4/2)<<16, Size: 9} },
		func(g uint64) api.Root {
			x := int(binary.LittleEndian.Uint32(mixed(int(g), 4)))
			return api.Root{Generation: g, At: x % (api.MaxFile + 1), Size: (x >> 8) % (api.MaxFile + 1)}
		},
	}
}

// wantEither asks for the root of a Generation, where 0 means none, or for the next one.
func wantEither(t *testing.T, f *store.File, chain func(uint64) api.Root, n uint64) {
	t.Helper()
	r, is, e := slots.Best(f)
	want(t, "Best behind a start", e, api.OK)
	if is && r == chain(n+1) {
		return
	}
	if is != (n > 0) || is && r != chain(n) || !is && r != (api.Root{}) {
		t.Fatalf("behind %d roots and one that was cut: %v, %t", n, r, is)
	}
}

// P4.5: whatever was put, and wherever the next Put is cut.
func TestCrashes(t *testing.T) {
	for _, chain := range chains() {
		f := store.New(64)
		for n := range uint64(300) {
			for behind := range 5 {
				wantCrash(t, f.Copy(), chain, n, behind)
			}
			put(t, f, chain(n+1))
			wantBest(t, "behind a Put", f, chain(n+1), true, api.OK)
		}
	}
}

// wantCrash asks what stands in a file, to which n roots were put, when the next one is cut behind some raw writes, and what stands there when it is put again.
func wantCrash(t *testing.T, f *store.File, chain func(uint64) api.Root, n uint64, behind int) {
	t.Helper()
	plan(t, f, behind)
	e := slots.Put(f, chain(n+1))
	if e == api.OK {
		wantBest(t, "a Put that ended", f, chain(n+1), true, api.OK)
		return
	}
	want(t, "a Put that was cut", e, api.ErrPower)
	wantBest(t, "the power is off", f, api.Root{}, false, api.ErrPower)
	f.Start()
	wantEither(t, f, chain, n)
	put(t, f, chain(n+1))
	wantBest(t, "put again", f, chain(n+1), true, api.OK)
}

// P4.5: the power fails again and again, each time behind as many raw writes, or as few.
func TestCrashesAgainAndAgain(t *testing.T) {
	for _, chain := range chains() {
		for n := range uint64(8) {
			for pattern := range 64 {
				f := store.New(64)
				for g := range n {
					put(t, f, chain(g+1))
				}
				for _, behind := range []int{pattern % 4, pattern / 4 % 4, pattern / 16} {
					plan(t, f, behind)
					slots.Put(f, chain(n+1))
					f.Start()
					wantEither(t, f, chain, n)
				}
			}
		}
	}
}

// Rule 5: what is answered hangs on no call ahead of it.
func TestFilesStandApart(t *testing.T) {
	f, g := store.New(64), store.New(64)
	put(t, f, api.Root{Generation: 9, At: 1, Size: 1})
	wantNone(t, "another file", g)
	put(t, g, api.Root{Generation: 2, At: 2, Size: 2})
	wantBest(t, "the file", f, api.Root{Generation: 9, At: 1, Size: 1}, true, api.OK)
	wantBest(t, "another file", g, api.Root{Generation: 2, At: 2, Size: 2}, true, api.OK)
}
