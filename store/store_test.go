package store_test

import (
	"bytes"
	"math"
	"testing"

	"slabvault/api"
	"slabvault/store"
)

// mixed tells so many bytes that are not all alike, others for each seed.
func mixed(seed, size int) []byte {
	out := make([]byte, size)
	state := uint32(seed)*2654435761 + 12345
	for i := range out {
		state = state*1664525 + 1013904223
		out[i] = byte(state >> 24)
	}
	return out
}

func want(t *testing.T, what string, got, want api.Errno) {
	t.Helper()
	if got != want {
		t.Fatalf("%s: error %d, not %d", what, got, want)
	}
}

func wantBytes(t *testing.T, what string, got, want []byte) {
	t.Helper()
	if !bytes.Equal(got, want) {
		t.Fatalf("%s: %x, not %x", what, got, want)
	}
}

func wantPower(t *testing.T, what string, f *store.File, on bool) {
	t.Helper()
	if f.On() != on {
		t.Fatalf("%s: On is %t", what, f.On())
	}
}

// of makes a file that may be made.
func of(t *testing.T, b []byte, most int) *store.File {
	t.Helper()
	f := store.Of(b, most)
	if f == nil {
		t.Fatalf("Of(%d bytes, %d) is nil", len(b), most)
	}
	return f
}

func write(t *testing.T, f *store.File, at int, b []byte) {
	t.Helper()
	want(t, "Write", f.Write(at, b), api.OK)
}

func plan(t *testing.T, f *store.File, n int) {
	t.Helper()
	want(t, "Cut", f.Cut(n), api.OK)
}

// replay lays raw writes down in order, as chapter 3's words say.
func replay(first []byte, raws []api.Raw) []byte {
	out := append([]byte{}, first...)
	for _, raw := range raws {
		for i, x := range raw.Bytes {
			if raw.At+i == len(out) {
				out = append(out, x)
			}
			out[raw.At+i] = x
		}
	}
	return out
}

func sameRaws(a, b []api.Raw) bool {
	if len(a) != len(b) {
		return false
	}
	for i := range a {
		if a[i].At != b[i].At || !bytes.Equal(a[i].Bytes, b[i].Bytes) {
			return false
		}
	}
	return true
}

func wantRaws(t *testing.T, what string, got, want []api.Raw) {
	t.Helper()
	if !sameRaws(got, want) {
		t.Fatalf("%s: raw writes %v, not %v", what, got, want)
	}
}

// probes is how many raw writes are tried in search of a planned cut.
const probes = 12

// ahead tells how many raw writes a file does till its power fails, as a copy shows it; probes, if none fails.
func ahead(f *store.File) int {
	f = f.Copy()
	f.Start()
	for n := range probes {
		if f.Write(0, []byte{0}) != api.OK {
			return n
		}
	}
	return probes
}

// looks is all that can be seen of a file.
type looks struct {
	bytes []byte
	raws  []api.Raw
	size  int
	most  int
	on    bool
	ahead int
}

// look takes copies, because an answer that is no memory of its own would change with the file.
func look(f *store.File) looks {
	var raws []api.Raw
	for _, raw := range f.Raws() {
		raws = append(raws, api.Raw{At: raw.At, Bytes: bytes.Clone(raw.Bytes)})
	}
	return looks{bytes.Clone(f.Bytes()), raws, f.Len(), f.Most(), f.On(), ahead(f)}
}

func wantLooks(t *testing.T, what string, f *store.File, want looks) {
	t.Helper()
	got := look(f)
	wantBytes(t, what, got.bytes, want.bytes)
	wantRaws(t, what, got.raws, want.raws)
	if got.size != want.size || got.most != want.most || got.on != want.on || got.ahead != want.ahead {
		t.Fatalf("%s: %d of %d bytes, on %t, %d ahead, not %d of %d, %t, %d", what, got.size, got.most, got.on, got.ahead, want.size, want.most, want.on, want.ahead)
	}
}

// P3.1
func TestMostThatMayBe(t *testing.T) {
	for _, most := range []int{0, 1, 15, 16, 17, 100, api.MaxFile - 1, api.MaxFile} {
		f := store.New(most)
		if f == nil {
			t.Fatalf("New(%d) is nil", most)
		}
		if f.Most() != most || f.Len() != 0 || len(f.Bytes()) != 0 || len(f.Raws()) != 0 || !f.On() {
			t.Errorf("New(%d) is another file", most)
		}
	}
	for _, most := range []int{math.MinInt, math.MinInt + 1, -1 << 32, -1, api.MaxFile + 1, 1 << 32, math.MaxInt} {
		if store.New(most) != nil || store.Of(nil, most) != nil || store.Of([]byte{1}, most) != nil {
			t.Errorf("a file of at most %d bytes", most)
		}
	}
}

// P3.1
func TestBytesThatMayBe(t *testing.T) {
	for _, most := range []int{0, 1, 16, 100, 1000} {
		for _, size := range []int{0, 1, 16, 100, 1000} {
			given := mixed(size, size)
			f := store.Of(given, most)
			if (f != nil) != (size <= most) {
				t.Fatalf("Of(%d bytes, %d) nil: %t", size, most, f == nil)
			}
			if f == nil {
				continue
			}
			wantBytes(t, "Of", f.Bytes(), given)
			if f.Len() != size || f.Most() != most || len(f.Raws()) != 0 || !f.On() {
				t.Errorf("Of(%d bytes, %d) is another file", size, most)
			}
		}
	}
	whole := mixed(1, api.MaxFile)
	wantBytes(t, "MaxFile bytes", of(t, whole, api.MaxFile).Bytes(), whole)
	if store.Of(append(whole, 1), api.MaxFile) != nil {
		t.Error("more than MaxFile bytes")
	}
}

// P3.1: a file that was made has no cut planned.
func TestNewFileHasNoCut(t *testing.T) {
	for _, f := range []*store.File{store.New(1000), of(t, mixed(1, 40), 1000)} {
		write(t, f, 0, mixed(2, 1000))
		wantPower(t, "behind 63 raw writes", f, true)
	}
}

// Example 1 of the chapter.
func TestExample(t *testing.T) {
	f := store.New(100)
	old, young := mixed(1, 40), mixed(2, 40)
	write(t, f, 0, old)
	wantRaws(t, "40 bytes", f.Raws(), []api.Raw{{At: 0, Bytes: old[:16]}, {At: 16, Bytes: old[16:32]}, {At: 32, Bytes: old[32:]}})
	plan(t, f, 1)
	want(t, "cut", f.Write(0, young), api.ErrPower)
	wantBytes(t, "cut", f.Bytes(), append(bytes.Clone(young[:16]), old[16:]...))
	wantPower(t, "cut", f, false)
	_, e := f.Read(0, 1)
	want(t, "Read", e, api.ErrPower)
	f.Start()
	_, e = f.Read(0, 1)
	want(t, "Read", e, api.OK)
	want(t, "Write(41)", f.Write(41, []byte{1}), api.ErrArg)
	want(t, "Write(40, 61 bytes)", f.Write(40, mixed(3, 61)), api.ErrBig)
}

// wantPieces asks that a Write laid down b at a place by these raw writes: all but the last of 16 bytes.
func wantPieces(t *testing.T, raws []api.Raw, at int, b []byte) {
	t.Helper()
	for len(b) > 0 {
		size := min(16, len(b))
		if len(raws) == 0 || raws[0].At != at || !bytes.Equal(raws[0].Bytes, b[:size]) {
			t.Fatalf("%v, not %x at %d", raws, b[:size], at)
		}
		raws, at, b = raws[1:], at+size, b[size:]
	}
	if len(raws) != 0 {
		t.Fatalf("%v more than was written", raws)
	}
}

// P3.2: any size, at any place of the file and right behind it.
func TestWriteLaysDown(t *testing.T) {
	first := mixed(9, 40)
	for at := range len(first) + 1 {
		for _, size := range []int{0, 1, 2, 15, 16, 17, 31, 32, 33, 39, 40, 41, 48, 60, 100 - at} {
			if at+size > 100 {
				continue
			}
			f, b := of(t, first, 100), mixed(size, size)
			write(t, f, at, b)
			expected := append(bytes.Clone(first[:at]), b...)
			if len(expected) < len(first) {
				expected = append(expected, first[len(expected):]...)
			}
			wantBytes(t, "Write", f.Bytes(), expected)
			wantPieces(t, f.Raws(), at, b)
			if f.Len() != len(expected) {
				t.Fatalf("Len %d, not %d", f.Len(), len(expected))
			}
		}
	}
}

// P3.2: raw writes lie where a Write begins, not where 16 divides the place.
func TestRawWritesBeginWithTheWrite(t *testing.T) {
	f := of(t, mixed(1, 5), 100)
	b := mixed(2, 20)
	write(t, f, 5, b)
	wantRaws(t, "20 bytes at 5", f.Raws(), []api.Raw{{At: 5, Bytes: b[:16]}, {At: 21, Bytes: b[16:]}})
}

// P3.2: nothing is laid down by no bytes, wherever that may be, even at the end of a full file.
func TestWriteOfNothing(t *testing.T) {
	f := of(t, mixed(1, 20), 20)
	before := look(f)
	for _, at := range []int{0, 1, 19, 20} {
		write(t, f, at, nil)
		write(t, f, at, []byte{})
	}
	wantLooks(t, "writes of nothing", f, before)
	want(t, "beyond the end", f.Write(21, nil), api.ErrArg)
	none := store.New(0)
	write(t, none, 0, nil)
	want(t, "in a file of 0 bytes", none.Write(0, []byte{1}), api.ErrBig)
	want(t, "beyond a file of 0 bytes", none.Write(1, nil), api.ErrArg)
}

// P3.2: the last byte may lie right ahead of most, and no further.
func TestWriteEndsAtMost(t *testing.T) {
	for _, at := range []int{0, 1, 16, 29, 30} {
		f := of(t, mixed(1, 30), 64)
		want(t, "beyond most", f.Write(at, mixed(2, 65-at)), api.ErrBig)
		write(t, f, at, mixed(2, 64-at))
		if f.Len() != 64 {
			t.Errorf("Len %d", f.Len())
		}
		want(t, "in a full file", f.Write(64, []byte{1}), api.ErrBig)
	}
	f := store.New(api.MaxFile)
	want(t, "beyond MaxFile", f.Write(0, make([]byte, api.MaxFile+1)), api.ErrBig)
	whole := mixed(5, api.MaxFile)
	write(t, f, 0, whole)
	wantBytes(t, "MaxFile bytes", f.Bytes(), whole)
	if n := len(f.Raws()); n != api.MaxFile/16 {
		t.Errorf("%d raw writes", n)
	}
}

// P3.2: what is refused changes nothing, and does no planned cut.
func TestRefusedWritesChangeNothing(t *testing.T) {
	for _, planned := range []bool{false, true} {
		f := of(t, mixed(1, 30), 64)
		write(t, f, 3, mixed(2, 20))
		if planned {
			plan(t, f, 0)
		}
		before := look(f)
		for _, at := range []int{math.MinInt, -1, 31, 64, 65, math.MaxInt} {
			want(t, "a place that is none", f.Write(at, nil), api.ErrArg)
			want(t, "a place that is none", f.Write(at, []byte{1}), api.ErrArg)
			want(t, "a place that is none", f.Write(at, mixed(3, 100)), api.ErrArg)
		}
		for _, at := range []int{0, 1, 30} {
			want(t, "too many bytes", f.Write(at, mixed(4, 65-at)), api.ErrBig)
			want(t, "too many bytes", f.Write(at, mixed(4, 1000)), api.ErrBig)
		}
		wantLooks(t, "refused writes", f, before)
	}
}

// P3.3
func TestReadTellsBytes(t *testing.T) {
	b := mixed(1, 50)
	f := of(t, b, 100)
	for at := range 54 {
		for n := range 54 {
			got, e := f.Read(at, n)
			if at+n > len(b) && n > 0 {
				want(t, "Read beyond the end", e, api.ErrShort)
				wantBytes(t, "Read beyond the end", got, nil)
				continue
			}
			want(t, "Read", e, api.OK)
			wantBytes(t, "Read", got, b[min(at, 50):min(at, 50)+n])
		}
	}
}

// P3.3: numbers of Go's whole range.
func TestReadOfAnyNumbers(t *testing.T) {
	f := of(t, mixed(1, 50), 100)
	for _, bad := range []int{math.MinInt, math.MinInt + 1, -50, -1} {
		for _, other := range []int{math.MinInt, -1, 0, 1, 50, math.MaxInt} {
			for _, pair := range [][2]int{{bad, other}, {other, bad}} {
				got, e := f.Read(pair[0], pair[1])
				want(t, "below 0", e, api.ErrArg)
				wantBytes(t, "below 0", got, nil)
			}
		}
	}
	for _, great := range []int{51, 100, 101, 1 << 40, math.MaxInt - 1, math.MaxInt} {
		for _, pair := range [][2]int{{0, great}, {50, great}, {great, 1}, {great, great}, {1, great}} {
			got, e := f.Read(pair[0], pair[1])
			want(t, "too many", e, api.ErrShort)
			wantBytes(t, "too many", got, nil)
		}
		got, e := f.Read(great, 0)
		want(t, "none beyond the end", e, api.OK)
		wantBytes(t, "none beyond the end", got, nil)
	}
}

// P3.3: Len, Most and Bytes answer while the power is off; Read and Write don't, whatever they are asked.
func TestPowerOff(t *testing.T) {
	f := of(t, mixed(1, 50), 100)
	plan(t, f, 2)
	b := mixed(2, 48)
	want(t, "cut", f.Write(10, b), api.ErrPower)
	whole := append(append(bytes.Clone(mixed(1, 50)[:10]), b[:32]...), mixed(1, 50)[42:]...)
	wantBytes(t, "off", f.Bytes(), whole)
	if f.Len() != 50 || f.Most() != 100 {
		t.Errorf("off: %d of %d", f.Len(), f.Most())
	}
	wantPieces(t, f.Raws(), 10, b[:32])
	for _, at := range []int{math.MinInt, -1, 0, 50, 51, math.MaxInt} {
		for _, n := range []int{math.MinInt, -1, 0, 1, 50, 51, math.MaxInt} {
			got, e := f.Read(at, n)
			want(t, "Read", e, api.ErrPower)
			wantBytes(t, "Read", got, nil)
		}
		for _, n := range []int{0, 1, 101} {
			want(t, "Write", f.Write(at, make([]byte, n)), api.ErrPower)
		}
	}
	wantBytes(t, "still off", f.Bytes(), whole)
	wantPower(t, "still off", f, false)
}

// P3.4
func TestCutOfBadNumbers(t *testing.T) {
	f := of(t, mixed(1, 20), 100)
	plan(t, f, 3)
	before := look(f)
	for _, n := range []int{-1, -2, math.MinInt} {
		want(t, "Cut", f.Cut(n), api.ErrArg)
	}
	wantLooks(t, "refused cuts", f, before)
	if before.ahead != 3 {
		t.Errorf("cut behind %d", before.ahead)
	}
	want(t, "Cut", f.Cut(math.MaxInt), api.OK)
	if n := ahead(f); n != probes {
		t.Errorf("cut behind %d", n)
	}
}

// P3.4: a cut of 0 cuts the next raw write; a Write of no bytes has none.
func TestCutBehindNothing(t *testing.T) {
	first := mixed(1, 20)
	f := of(t, first, 100)
	plan(t, f, 0)
	wantPower(t, "planned", f, true)
	got, e := f.Read(0, 20)
	want(t, "planned", e, api.OK)
	wantBytes(t, "planned", got, first)
	write(t, f, 20, nil)
	wantPower(t, "a Write of nothing", f, true)
	want(t, "cut", f.Write(20, []byte{1}), api.ErrPower)
	wantPower(t, "cut", f, false)
	wantBytes(t, "cut", f.Bytes(), first)
	wantRaws(t, "cut", f.Raws(), nil)
}

// P3.4: a cut behind as many raw writes as a Write has leaves it whole, and cuts the next one.
func TestCutBehindAWholeWrite(t *testing.T) {
	for _, size := range []int{1, 16, 17, 32, 33, 48} {
		f := store.New(100)
		plan(t, f, (size+15)/16)
		write(t, f, 0, mixed(1, size))
		wantPower(t, "a whole Write", f, true)
		_, e := f.Read(0, size)
		want(t, "a whole Write", e, api.OK)
		want(t, "the next", f.Write(0, mixed(2, 1)), api.ErrPower)
		wantBytes(t, "the next", f.Bytes(), mixed(1, size))
	}
}

// P3.4: a cut outlasts Writes; it counts raw writes, not bytes, not Writes.
func TestCutOutlastsWrites(t *testing.T) {
	f := store.New(100)
	plan(t, f, 5)
	write(t, f, 0, mixed(1, 17))
	write(t, f, 17, mixed(2, 1))
	write(t, f, 18, nil)
	want(t, "beyond most", f.Write(18, mixed(3, 100)), api.ErrBig)
	wantPower(t, "three raw writes", f, true)
	want(t, "cut", f.Write(1, mixed(4, 40)), api.ErrPower)
	expected := append(bytes.Clone(mixed(1, 17)[:1]), mixed(4, 40)[:32]...)
	wantBytes(t, "cut", f.Bytes(), expected)
	if n := len(f.Raws()); n != 5 {
		t.Errorf("%d raw writes", n)
	}
}

// P3.4: a cut takes the place of any that was planned, be it sooner or later.
func TestCutPlannedAnew(t *testing.T) {
	for old := range 6 {
		for young := range 6 {
			for done := range old {
				f := store.New(100)
				plan(t, f, old)
				for range done {
					write(t, f, 0, []byte{1})
				}
				plan(t, f, young)
				if n := ahead(f); n != young {
					t.Fatalf("Cut(%d), %d writes, Cut(%d): cut behind %d", old, done, young, n)
				}
			}
		}
	}
}

// P3.4: a cut that has happened is planned no longer behind Start; one that is planned while the power is off counts from the next Start's writes on.
func TestCutPlannedWhileOff(t *testing.T) {
	f := store.New(100)
	plan(t, f, 0)
	want(t, "cut", f.Write(0, []byte{1}), api.ErrPower)
	g := f.Copy()
	g.Start()
	if n := ahead(g); n != probes {
		t.Fatalf("a cut that has happened, again behind %d", n)
	}
	plan(t, f, 4)
	wantPower(t, "planned while off", f, false)
	plan(t, f, 2)
	want(t, "off", f.Write(0, mixed(1, 40)), api.ErrPower)
	want(t, "off", f.Write(0, mixed(1, 40)), api.ErrPower)
	f.Start()
	wantPower(t, "Start", f, true)
	want(t, "cut again", f.Write(0, mixed(1, 40)), api.ErrPower)
	wantBytes(t, "cut again", f.Bytes(), mixed(1, 32))
	f.Start()
	write(t, f, 0, mixed(1, 100))
}

// P3.4: Start of a file that is on leaves a planned cut as it is.
func TestStartWhileOn(t *testing.T) {
	f := store.New(100)
	f.Start()
	wantPower(t, "Start", f, true)
	plan(t, f, 3)
	write(t, f, 0, []byte{1})
	f.Start()
	if n := ahead(f); n != 2 {
		t.Errorf("cut behind %d", n)
	}
	plan(t, f, 0)
	f.Start()
	want(t, "cut", f.Write(0, []byte{2}), api.ErrPower)
	f.Start()
	f.Start()
	wantPower(t, "Start twice", f, true)
}

// P3.5: all raw writes stand in order, those that laid the same down again too.
func TestRawsInOrder(t *testing.T) {
	f := of(t, mixed(1, 10), 100)
	write(t, f, 4, []byte("abc"))
	write(t, f, 4, []byte("abc"))
	write(t, f, 0, []byte("z"))
	write(t, f, 10, mixed(2, 17))
	expected := []api.Raw{{At: 4, Bytes: []byte("abc")}, {At: 4, Bytes: []byte("abc")}, {At: 0, Bytes: []byte("z")},
		{At: 10, Bytes: mixed(2, 17)[:16]}, {At: 26, Bytes: mixed(2, 17)[16:]}}
	wantRaws(t, "five", f.Raws(), expected)
	plan(t, f, 0)
	want(t, "cut", f.Write(0, []byte("y")), api.ErrPower)
	wantRaws(t, "while off", f.Raws(), expected)
	f.Start()
	wantRaws(t, "behind Start", f.Raws(), expected)
}

// stands tells files in all that may be: empty, full, with a record, with a cut planned, off, and off with a cut planned.
func stands(t *testing.T) map[string]*store.File {
	full := of(t, mixed(1, 40), 40)
	written := of(t, mixed(1, 10), 100)
	write(t, written, 5, mixed(2, 50))
	planned := written.Copy()
	plan(t, planned, 3)
	off := written.Copy()
	plan(t, off, 1)
	want(t, "cut", off.Write(0, mixed(3, 40)), api.ErrPower)
	again := off.Copy()
	plan(t, again, 2)
	return map[string]*store.File{"empty": store.New(50), "full": full, "written": written, "planned": planned, "off": off, "off and planned": again}
}

// P3.5
func TestCopyIsAlike(t *testing.T) {
	for name, f := range stands(t) {
		before := look(f)
		g := f.Copy()
		wantLooks(t, name+": copy", g, before)
		wantLooks(t, name+": what was copied", f, before)
		wantLooks(t, name+": copy of a copy", g.Copy(), before)
	}
}

// P3.5: what is done to one is not seen in the other.
func TestCopyStandsAlone(t *testing.T) {
	deeds := map[string]func(f *store.File){
		"Write over":   func(f *store.File) { f.Write(0, mixed(7, 1)) },
		"Write behind": func(f *store.File) { f.Write(f.Len(), mixed(7, 1)) },
		"Write much":   func(f *store.File) { f.Write(0, mixed(7, f.Most())) },
		"Cut 0":        func(f *store.File) { f.Cut(0) },
		"Cut 5":        func(f *store.File) { f.Cut(5) },
		"Start":        func(f *store.File) { f.Start() },
		"cut":          func(f *store.File) { f.Cut(0); f.Write(0, mixed(7, 1)) },
		"cut again":    func(f *store.File) { f.Cut(1); f.Start(); f.Write(0, mixed(7, 20)); f.Start() },
	}
	for name := range stands(t) {
		for deed, do := range deeds {
			f := stands(t)[name]
			g := f.Copy()
			before := look(f)
			do(g)
			wantLooks(t, name+", done to the copy: "+deed, f, before)
			f = stands(t)[name]
			g = f.Copy()
			do(f)
			wantLooks(t, name+", done to what was copied: "+deed, g, before)
		}
	}
}

// P3.5: both grow from where they were alike, in memory of their own.
func TestCopiesGrowApart(t *testing.T) {
	f := store.New(1000)
	for i := range 9 {
		write(t, f, f.Len(), mixed(i, 7))
	}
	first := f.Bytes()
	g := f.Copy()
	for i := range 20 {
		write(t, f, f.Len(), mixed(100+i, 3))
		write(t, g, g.Len(), mixed(200+i, 3))
	}
	for i := range 20 {
		at := len(first) + 3*i
		wantBytes(t, "one", f.Bytes()[at:at+3], mixed(100+i, 3))
		wantBytes(t, "the other", g.Bytes()[at:at+3], mixed(200+i, 3))
		wantBytes(t, "one's record", f.Raws()[9+i].Bytes, mixed(100+i, 3))
		wantBytes(t, "the other's record", g.Raws()[9+i].Bytes, mixed(200+i, 3))
	}
}

// P3.7
func TestCutWrites(t *testing.T) {
	for _, size := range []int{1, 15, 16, 17, 32, 33, 64, 90} {
		for n := range 8 {
			for _, at := range []int{0, 1, 29, 30} {
				first := mixed(1, 30)
				f, b := of(t, first, 200), mixed(2, size)
				plan(t, f, n)
				e := f.Write(at, b)
				done := min(16*n, size)
				if (e == api.ErrPower) != (done < size) || f.On() != (done == size) {
					t.Fatalf("%d bytes cut behind %d: error %d, on %t", size, n, e, f.On())
				}
				wantBytes(t, "cut", f.Bytes(), replay(first, []api.Raw{{At: at, Bytes: b[:done]}}))
				wantPieces(t, f.Raws(), at, b[:done])
			}
		}
	}
}

// model is a file as the chapter's words say it, raw write by raw write.
type model struct {
	first   []byte
	raws    []api.Raw
	most    int
	off     bool
	planned bool
	left    int
}

func (m *model) bytes() []byte { return replay(m.first, m.raws) }

func (m *model) write(at int, b []byte) api.Errno {
	size := len(m.bytes())
	switch {
	case m.off:
		return api.ErrPower
	case at < 0 || at > size:
		return api.ErrArg
	case len(b) > 0 && at+len(b)-1 >= m.most:
		return api.ErrBig
	}
	for len(b) > 0 {
		if m.planned && m.left == 0 {
			m.off, m.planned = true, false
			return api.ErrPower
		}
		n := min(16, len(b))
		m.raws = append(m.raws, api.Raw{At: at, Bytes: b[:n]})
		m.left--
		at, b = at+n, b[n:]
	}
	return api.OK
}

// P3.6: whatever was done, the first bytes with all raw writes laid down in order are the file's bytes; and each answer is the model's.
func TestFileIsItsModel(t *testing.T) {
	for seed := range 60 {
		dice := mixed(seed+1000, 4*150)
		first := mixed(seed, seed%40)
		m := &model{first: first, most: 40 + 3*seed}
		f := of(t, first, m.most)
		for len(dice) > 0 {
			kind, x, y := dice[0]%16, int(dice[1])-3, int(dice[2])%70
			dice = dice[4:]
			switch {
			case kind < 9:
				at := x % (len(m.bytes()) + 2)
				b := mixed(x, y)
				want(t, "Write", f.Write(at, b), m.write(at, b))
			case kind < 11:
				m.planned, m.left = true, y%6
				plan(t, f, y%6)
			case kind < 14:
				m.off = false
				f.Start()
			default:
				f = f.Copy()
			}
			wantPower(t, "the model", f, !m.off)
			wantBytes(t, "the model", f.Bytes(), m.bytes())
			wantRaws(t, "the model", f.Raws(), m.raws)
			wantBytes(t, "replay", f.Bytes(), replay(first, f.Raws()))
		}
	}
}

// Rule 1: a file that is nil, or that no call made, answers ErrNil ahead of all else, or nothing, and stays what it is.
func TestNoFile(t *testing.T) {
	for name, f := range map[string]*store.File{"nil": nil, "plain": {}} {
		for range 2 {
			want(t, name+" Write", f.Write(0, nil), api.ErrNil)
			want(t, name+" Write", f.Write(-1, []byte{1}), api.ErrNil)
			for _, n := range []int{-1, 0, 1} {
				b, e := f.Read(n, n)
				want(t, name+" Read", e, api.ErrNil)
				wantBytes(t, name+" Read", b, nil)
				want(t, name+" Cut", f.Cut(n), api.ErrNil)
			}
			if f.Len() != 0 || f.Most() != 0 || len(f.Bytes()) != 0 || len(f.Raws()) != 0 || f.On() || f.Copy() != nil {
				t.Errorf("%s: a file", name)
			}
			f.Start()
		}
	}
}
