package impl

import (
	"slices"
	"sync"
	"testing"
)

// Each header that may be is read as it was; what is below 0 is none.
func TestHeaders(t *testing.T) {
	for tag := range MaxPlaces + 1 {
		for kids := range MaxKids + 1 {
			for _, fun := range []bool{false, true} {
				b := header{fun: fun, tag: tag, kids: kids}
				if w := b.word(); !b.ok() || IsRef(w) || headerOf(w) != b {
					t.Fatalf("%v is the word %d, which is %v", b, w, headerOf(w))
				}
			}
		}
	}
	for w := -1; w > -2000; w -= 2 {
		if b := headerOf(w); b.ok() || b.tag >= 0 || b.kids < 0 {
			t.Fatalf("the word %d is %v", w, b)
		}
	}
}

func heldOf(t *testing.T, half int) *heldHeap {
	t.Helper()
	h, _ := HeapNew(half)
	held, ok := hold(h)
	if !ok {
		t.Fatalf("a new heap of %d is not right", half)
	}
	return held
}

// Each time it is moved the other half is in use; how often it was is told by nothing else.
func TestHeldHeapInTheOtherHalf(t *testing.T) {
	held := heldOf(t, 7)
	for moved := range 6 {
		want := 7 * (moved % 2)
		if held.base() != want || held.heap().Base != want {
			t.Fatalf("moved %d times its base is %d", moved, held.base())
		}
		held.moved.Add(1)
	}
	for _, base := range []int{0, 7} {
		held, ok := hold(Heap{Words: make([]int, 14), Half: 7, Base: base, Next: base})
		if !ok || held.base() != base || held.room() != 7 {
			t.Errorf("held at %d its base is %d", base, held.base())
		}
	}
}

// What is refused leaves the held heap as it was, and unlocked.
func TestHeldHeapBehindWhatIsRefused(t *testing.T) {
	held := heldOf(t, 6)
	if p, ok := held.put(header{tag: 5, kids: 1}, []int{IntWord(4)}); !ok || p != 0 {
		t.Fatalf("the first block is at %d: %v", p, ok)
	}
	kept := held.heap()
	words, begins := slices.Clone(kept.Words), slices.Clone(held.begins)
	for _, b := range []struct {
		head header
		kids []int
	}{
		{header{tag: -1}, nil}, {header{tag: MaxPlaces + 1}, nil}, {header{kids: MaxKids + 1}, make([]int, MaxKids+1)},
		{header{kids: 4}, make([]int, 4)}, {header{kids: 1}, []int{RefWord(1)}}, {header{kids: 1}, []int{RefWord(3)}}, {header{kids: 2}, []int{RefWord(0), 2*greatestWord + 3}},
	} {
		if p, ok := held.put(b.head, b.kids); ok || p != 0 {
			t.Errorf("%v is put at %d", b.head, p)
		}
		if !held.lock.TryLock() {
			t.Fatalf("behind %v it is locked", b.head)
		}
		held.lock.Unlock()
		if now := held.heap(); now.Next != kept.Next || !slices.Equal(now.Words, words) || !slices.Equal(held.begins, begins) {
			t.Errorf("behind %v it is %v", b.head, now)
		}
	}
	if _, _, ok := held.block(1); ok || held.room() != 4 {
		t.Errorf("room is %d", held.room())
	}
	if b, kids, ok := held.block(0); !ok || b.tag != 5 || !slices.Equal(kids, []int{IntWord(4)}) {
		t.Errorf("at 0 there is %v %v", b, kids)
	}
}

// Whoever puts a block into one heap at once with others has a place of its own.
func TestHeldHeapAtOnce(t *testing.T) {
	held := heldOf(t, MaxHalf)
	var all sync.WaitGroup
	places := make([][]int, 8)
	for i := range places {
		all.Go(func() {
			for n := range 100 {
				if p, ok := held.put(header{tag: i, kids: 1}, []int{IntWord(n)}); ok {
					places[i] = append(places[i], p)
				}
				held.room()
				held.block(0)
			}
		})
	}
	all.Wait()
	if h := held.heap(); !HeapOk(h) || h.Next != 8*100*2 {
		t.Fatalf("it is right: %v, up to %d", HeapOk(h), h.Next)
	}
	for i, list := range places {
		for n, p := range list {
			if b, kids, ok := held.block(p); !ok || b.tag != i || !slices.Equal(kids, []int{IntWord(n)}) {
				t.Fatalf("block %d of %d is %v %v", n, i, b, kids)
			}
		}
	}
}
