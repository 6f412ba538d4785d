package heap_test

import (
	"bytes"
	"maps"
	"math"
	"slices"
	"testing"

	"slabvault/api"
	"slabvault/heap"
)

// model is what a heap has: things by numbers, and nothing else.
type model map[int]string

// free tells the least number that none has, counted from 0 on.
func (m model) free() int {
	for id := 0; ; id++ {
		if _, is := m[id]; !is {
			return id
		}
	}
}

// wantAdd asks for a thing's number, and for an answer that is 0 beside an error.
func wantAdd(t *testing.T, h *heap.Heap, thing string, want int, errno api.Errno) {
	t.Helper()
	if id, e := h.Add([]byte(thing)); id != want || e != errno {
		t.Fatalf("Add of %d bytes: %d, error %d; want %d, error %d", len(thing), id, int(e), want, int(errno))
	}
}

func wantGet(t *testing.T, h *heap.Heap, id int, want string, errno api.Errno) {
	t.Helper()
	if got, e := h.Get(id); string(got) != want || e != errno {
		t.Fatalf("Get(%d): %.40q, error %d; want %.40q, error %d", id, got, int(e), want, int(errno))
	}
}

func wantDrop(t *testing.T, h *heap.Heap, id int, errno api.Errno) {
	t.Helper()
	if e := h.Drop(id); e != errno {
		t.Fatalf("Drop(%d): error %d; want %d", id, int(e), int(errno))
	}
}

func wantIds(t *testing.T, h *heap.Heap, want ...int) {
	t.Helper()
	if got := h.Ids(); !slices.Equal(got, want) || h.Len() != len(want) {
		t.Fatalf("%d things: %.20v; want %d: %.20v", h.Len(), got, len(want), want)
	}
}

// wantModel asks that a heap has just what a model has, in all that it tells.
func wantModel(t *testing.T, h *heap.Heap, m model) {
	t.Helper()
	wantIds(t, h, slices.Sorted(maps.Keys(m))...)
	for id, thing := range m {
		wantGet(t, h, id, thing, api.OK)
	}
	wantGet(t, h, -1, "", api.ErrNone)
	wantGet(t, h, m.free(), "", api.ErrNone)
	wantDrop(t, h, m.free(), api.ErrNone)
	if got, want := h.Bytes(), sealed(plainOf(m)); !bytes.Equal(got, want) {
		t.Fatalf("Bytes of %d things: %d: %.60x; want %d: %.60x", len(m), len(got), got, len(want), want)
	}
}

// filled makes a heap with so many things, each the text of its number.
func filled(t *testing.T, count int) (*heap.Heap, model) {
	t.Helper()
	h, m := heap.New(), model{}
	for id := range count {
		m[id] = textOf(id)
		wantAdd(t, h, m[id], id, api.OK)
	}
	return h, m
}

// textOf tells a text that each number has of its own, of 0 to 3 bytes.
func textOf(n int) string {
	var out []byte
	for ; n > 0; n >>= 8 {
		out = append(out, byte(n))
	}
	return string(out)
}

// P6.1, P6.3
func TestNewHasNothing(t *testing.T) {
	wantModel(t, heap.New(), model{})
	if heap.New() == heap.New() {
		t.Error("New tells one heap twice")
	}
}

// P6.1 to P6.4, P6.7: the chapter's example.
func TestExample(t *testing.T) {
	h := heap.New()
	wantAdd(t, h, "a", 0, api.OK)
	wantAdd(t, h, "bc", 1, api.OK)
	wantDrop(t, h, 0, api.OK)
	if want := sealed([]byte("\x00\x00\x00\x02\x00\x01\x00\x00\x00\x02bc")); !bytes.Equal(h.Bytes(), want) {
		t.Errorf("Bytes: %x; want %x", h.Bytes(), want)
	}
	wantAdd(t, h, "", 0, api.OK)
	wantGet(t, h, 0, "", api.OK)
	wantGet(t, h, 2, "", api.ErrNone)
}

// P6.1: how great a thing may be.
func TestAddUpToTheGreatestThing(t *testing.T) {
	h, m := heap.New(), model{}
	for _, size := range []int{0, 1, 2, 255, 256, 257, api.MaxBlob - 1, api.MaxBlob} {
		thing := string(bytes.Repeat([]byte{byte(size + 1)}, size))
		wantAdd(t, h, thing, len(m), api.OK)
		m[len(m)] = thing
	}
	for _, size := range []int{api.MaxBlob + 1, 2 * api.MaxBlob, 1 << 20} {
		wantAdd(t, h, string(make([]byte, size)), 0, api.ErrBig)
		wantModel(t, h, m)
	}
	wantAdd(t, h, "x", len(m), api.OK)
}

// P6.1: how many things there may be; a thing that is too great is told ahead of a heap that is full.
func TestAddUpToTheLastThing(t *testing.T) {
	h, m := filled(t, api.MaxItems)
	for range 2 {
		wantAdd(t, h, "", 0, api.ErrFull)
		wantAdd(t, h, string(make([]byte, api.MaxBlob)), 0, api.ErrFull)
		wantAdd(t, h, string(make([]byte, api.MaxBlob+1)), 0, api.ErrBig)
	}
	wantModel(t, h, m)
	for _, id := range []int{0, 1, 40000, api.MaxItems - 2, api.MaxItems - 1} {
		wantDrop(t, h, id, api.OK)
		wantAdd(t, h, string(make([]byte, api.MaxBlob+1)), 0, api.ErrBig)
		wantAdd(t, h, "again", id, api.OK)
		wantAdd(t, h, "one more", 0, api.ErrFull)
		m[id] = "again"
	}
	wantModel(t, h, m)
}

// P6.7: of many that were dropped the least comes first, also in a heap that was full.
func TestDroppedNumbersComeAgainRising(t *testing.T) {
	for _, count := range []int{1, 2, 3, 10, api.MaxItems} {
		h, m := filled(t, count)
		dropped := []int{}
		for i := range min(count, 20) {
			id := (i*7 + 3) % count
			if _, is := m[id]; is {
				wantDrop(t, h, id, api.OK)
				delete(m, id)
				dropped = append(dropped, id)
			}
		}
		wantModel(t, h, m)
		slices.Sort(dropped)
		for _, id := range dropped {
			wantAdd(t, h, "back", id, api.OK)
			m[id] = "back"
		}
		wantModel(t, h, m)
	}
}

// P6.2, P6.3, P6.7: the first, the last and a middle thing are dropped, and added again.
func TestDropOfEachThing(t *testing.T) {
	for count := 1; count <= 6; count++ {
		for id := range count {
			h, m := filled(t, count)
			wantDrop(t, h, id, api.OK)
			delete(m, id)
			wantModel(t, h, m)
			wantGet(t, h, id, "", api.ErrNone)
			wantDrop(t, h, id, api.ErrNone)
			wantModel(t, h, m)
			wantAdd(t, h, "again", id, api.OK)
			wantAdd(t, h, "more", count, api.OK)
			m[id], m[count] = "again", "more"
			wantModel(t, h, m)
		}
	}
}

// P6.2, P6.3, P6.7: all are dropped, in either order, and the heap is as a new one.
func TestDropOfAll(t *testing.T) {
	for _, count := range []int{1, 2, 5, api.MaxItems} {
		for _, upward := range []bool{true, false} {
			h, _ := filled(t, count)
			for i := range count {
				if !upward {
					i = count - 1 - i
				}
				wantDrop(t, h, i, api.OK)
			}
			wantModel(t, h, model{})
			if !bytes.Equal(h.Bytes(), heap.New().Bytes()) {
				t.Errorf("Bytes: %x", h.Bytes())
			}
			wantAdd(t, h, "a", 0, api.OK)
			wantAdd(t, h, "b", 1, api.OK)
			wantModel(t, h, model{0: "a", 1: "b"})
		}
	}
}

// P6.2: numbers that no thing has.
func TestNumbersThatNoThingHas(t *testing.T) {
	for _, count := range []int{0, 1, 3} {
		h, m := filled(t, count)
		for _, id := range []int{-1, -2, -count, -count - 1, count, count + 1, api.MaxItems - 1, api.MaxItems, 1 << 32, 1<<32 + 1, math.MaxInt, math.MinInt, math.MinInt + 1} {
			if id == 0 {
				continue
			}
			wantGet(t, h, id, "", api.ErrNone)
			wantDrop(t, h, id, api.ErrNone)
		}
		wantModel(t, h, m)
		// What was refused has not moved the number that comes next.
		wantAdd(t, h, "next", count, api.OK)
	}
}

// P6.2: Get changes nothing, and tells the same each time.
func TestGetAgain(t *testing.T) {
	h, m := filled(t, 4)
	for range 3 {
		for id, thing := range m {
			wantGet(t, h, id, thing, api.OK)
		}
	}
	wantModel(t, h, m)
}

// P6.1: things that are alike are still two.
func TestThingsAlike(t *testing.T) {
	h := heap.New()
	for id := range 3 {
		wantAdd(t, h, "same", id, api.OK)
	}
	wantDrop(t, h, 1, api.OK)
	wantModel(t, h, model{0: "same", 2: "same"})
}

// walkAll does all rows of so many steps: an Add, or a Drop of a number that may have a thing or not.
func walkAll(t *testing.T, depth int, steps []int) {
	if len(steps) < depth {
		for step := -1; step <= 3; step++ {
			walkAll(t, depth, append(slices.Clip(steps), step))
		}
		return
	}
	h, m := heap.New(), model{}
	for i, step := range steps {
		doStep(t, h, m, i, step)
	}
	wantModel(t, h, m)
}

// doStep does a step to a heap and to a model: below 0 an Add, else the Drop of that number.
func doStep(t *testing.T, h *heap.Heap, m model, i, step int) {
	t.Helper()
	if step < 0 {
		id := m.free()
		m[id] = textOf(i)
		wantAdd(t, h, m[id], id, api.OK)
		return
	}
	errno := api.ErrNone
	if _, is := m[step]; is {
		errno = api.OK
	}
	wantDrop(t, h, step, errno)
	delete(m, step)
}

// P6.1, P6.2, P6.3, P6.4, P6.7: all rows of 7 steps.
func TestAllRowsOfSteps(t *testing.T) { walkAll(t, 7, nil) }

// P6.1, P6.2, P6.3, P6.5, P6.7: long rows of steps, with a heap beside that is laid down and loaded again and again.
func TestLongRowsOfSteps(t *testing.T) {
	state := uint32(1)
	chance := func(n int) int {
		state = state*1664525 + 1013904223
		return int(state>>8) % n
	}
	for row := range 20 {
		h, m := heap.New(), model{}
		for i := range 400 {
			step := -1
			if chance(10) < 4 {
				step = chance(60)
			}
			doStep(t, h, m, i, step)
			if chance(10) == 0 && row%2 == 1 {
				h = loaded(t, h.Bytes())
			}
		}
		wantModel(t, h, m)
	}
}

// P6.1, P6.2, P6.3, P6.4, rule 1: a heap that is nil, or that no call made.
func TestNoHeap(t *testing.T) {
	for _, h := range []*heap.Heap{nil, {}, new(heap.Heap)} {
		for range 2 {
			wantAdd(t, h, "a", 0, api.ErrNil)
			wantAdd(t, h, "", 0, api.ErrNil)
			wantAdd(t, h, string(make([]byte, api.MaxBlob+1)), 0, api.ErrNil)
			for _, id := range []int{0, 1, -1, math.MaxInt, math.MinInt} {
				wantGet(t, h, id, "", api.ErrNil)
				wantDrop(t, h, id, api.ErrNil)
			}
			if h.Len() != 0 || len(h.Ids()) != 0 || len(h.Bytes()) != 0 {
				t.Errorf("%d things: %v, %x", h.Len(), h.Ids(), h.Bytes())
			}
		}
	}
}

// Rule 5: what is answered hangs on no other heap.
func TestHeapsStandApart(t *testing.T) {
	h, m := filled(t, 3)
	other, _ := filled(t, 3)
	again := loaded(t, h.Bytes())
	wantDrop(t, other, 1, api.OK)
	wantDrop(t, again, 0, api.OK)
	wantAdd(t, again, "other", 0, api.OK)
	wantModel(t, h, m)
	wantAdd(t, h, "next", 3, api.OK)
	wantAdd(t, other, "back", 1, api.OK)
}
