package impl

import (
	"slices"
	"testing"
)

// movedHeap holds a leaf, one that is not come to, and one that has the leaf twice and itself; it is moved from the last one.
func movedHeap(t *testing.T, second bool) (*heldHeap, []int) {
	t.Helper()
	held := heldOf(t, 12)
	if second {
		held.moved.Add(1)
		held.next = held.base()
	}
	base := held.base()
	roots := []int{RefWord(base + 3), IntWord(4)}
	for _, kids := range [][]int{{IntWord(7)}, nil, {RefWord(base), RefWord(base + 3), RefWord(base)}} {
		if _, ok := held.put(header{tag: 1 + len(kids), kids: len(kids)}, kids); !ok {
			t.Fatalf("there is no block of %v", kids)
		}
	}
	met, ok := held.meet(roots)
	if !ok || !slices.Equal(met.places, []int{base + 3, base}) {
		t.Fatalf("blocks at %v are met: %v", met.places, ok)
	}
	held.move(met, roots)
	return held, roots
}

// A held heap that was moved is as one that is held anew, may be asked, put into and moved again, and is unlocked.
func TestHeldHeapBehindAMove(t *testing.T) {
	for _, second := range []bool{false, true} {
		held, roots := movedHeap(t, second)
		base := 12
		if second {
			base = 0
		}
		anew, ok := hold(held.heap())
		if !ok || !slices.Equal(anew.begins, held.begins) || anew.next != held.next || anew.base() != base {
			t.Fatalf("it is not as one that is held anew: %v", held.heap())
		}
		if !slices.Equal(roots, []int{RefWord(base), IntWord(4)}) || held.room() != 6 {
			t.Errorf("roots are %v, and room is %d", roots, held.room())
		}
		if !held.lock.TryLock() {
			t.Fatal("it is locked")
		}
		held.lock.Unlock()
		if p, ok := held.put(header{fun: true, tag: 9, kids: 1}, []int{RefWord(base + 4)}); !ok || p != base+6 {
			t.Fatalf("the next block is at %d: %v", p, ok)
		}
		roots = append(roots, RefWord(base+6))
		met, ok := held.meet(roots)
		if !ok {
			t.Fatal("roots are not right")
		}
		held.move(met, roots)
		if h := held.heap(); !HeapOk(h) || h.Base != 12-base || held.room() != 4 {
			t.Errorf("moved again it is %v", h)
		}
	}
}

// Roots that are wrong are refused, and leave the held heap unlocked and as it was.
func TestHeldHeapOfWrongRoots(t *testing.T) {
	for _, second := range []bool{false, true} {
		held, _ := movedHeap(t, second)
		words, begins, next := slices.Clone(held.words), slices.Clone(held.begins), held.next
		for _, w := range []int{RefWord(held.base() + 1), RefWord(held.next), RefWord(12 - held.base()), -2, 2*greatestWord + 3, 2*leastWord - 1} {
			if met, ok := held.meet([]int{RefWord(held.base()), w}); ok || met.places != nil || met.numbers != nil {
				t.Errorf("of the root %d blocks at %v are met", w, met.places)
			}
			if !held.lock.TryLock() {
				t.Fatalf("behind the root %d it is locked", w)
			}
			held.lock.Unlock()
		}
		if !slices.Equal(held.words, words) || !slices.Equal(held.begins, begins) || held.next != next {
			t.Errorf("it is %v", held.heap())
		}
	}
}
