package tests

import (
	"math"
	"slices"
	"testing"

	"loop.example/g00323/impl"
)

// emptyHeap is right, has no block, and either half of it may be in use.
func emptyHeap(half int, second bool) impl.Heap { return heapAt(half, second) }

func wantAlloc(t *testing.T, h impl.Heap, b aBlock, want bool) impl.Heap {
	t.Helper()
	next, _, ok := holdAlloc(t, h, b)
	if ok != want {
		t.Fatalf("Alloc(%s, %v) is %v", toldHeap(h), b, ok)
	}
	return next
}

func TestAllocByHand(t *testing.T) {
	h, _ := impl.HeapNew(9)
	h, p, ok := impl.Alloc(h, false, 3, []int{15})
	if want := []int{773, 15, 0, 0, 0, 0, 0, 0, 0, 0, 0, 0, 0, 0, 0, 0, 0, 0}; !ok || p != 0 || h.Next != 2 || !slices.Equal(h.Words, want) {
		t.Fatalf("the first block makes it %s", toldHeap(h))
	}
	h, p, ok = impl.Alloc(h, true, 1, []int{0, -1})
	if want := []int{773, 15, 267, 0, -1, 0, 0, 0, 0, 0, 0, 0, 0, 0, 0, 0, 0, 0}; !ok || p != 2 || h.Next != 5 || !slices.Equal(h.Words, want) {
		t.Fatalf("the second block makes it %s", toldHeap(h))
	}
	h, p, ok = impl.Alloc(h, false, 0, nil)
	if want := []int{773, 15, 267, 0, -1, 1, 0, 0, 0, 0, 0, 0, 0, 0, 0, 0, 0, 0}; !ok || p != 5 || h.Next != 6 || !slices.Equal(h.Words, want) {
		t.Fatalf("the third block makes it %s", toldHeap(h))
	}
	h, p, ok = impl.Alloc(h, true, 3000, []int{10, 4})
	if want := []int{773, 15, 267, 0, -1, 1, 768011, 10, 4, 0, 0, 0, 0, 0, 0, 0, 0, 0}; !ok || p != 6 || h.Next != 9 || !slices.Equal(h.Words, want) {
		t.Fatalf("the fourth block makes it %s", toldHeap(h))
	}
	if impl.Room(h) != 0 || !impl.HeapOk(h) {
		t.Errorf("it is full, and room is %d", impl.Room(h))
	}
	if next, p, ok := impl.Alloc(h, false, 0, nil); ok || p != 0 || !sameHeap(next, h) {
		t.Errorf("it is full, and a block is at %d of %s", p, toldHeap(next))
	}
}

func TestAllocOfTags(t *testing.T) {
	tags := []int{-2, -1, 0, 1, 2, 59, 60, 63, 64, 2998, 2999, 3000, 3001, 3002, 3064, -3000, math.MaxInt, math.MinInt, 1 << 24, 1<<24 + 1, 1 << 31, 1 << 55, 1 << 56, 1<<56 + 7, 1 << 57, 1<<57 + 3000, 1 << 58, -1 << 57, -1<<57 + 5, 1 << 62, -1 << 62}
	tags = append(tags, edgeNumbers()...)
	for _, second := range []bool{false, true} {
		for _, tag := range tags {
			for _, kids := range [][]int{nil, {intOf(5)}, slices.Repeat([]int{headOf(false, 0, 0)}, 20)} {
				h := heapAt(30, second, headOf(false, 2, 1), intOf(9))
				wantAlloc(t, h, conBlock(tag, kids...), 0 <= tag && tag <= placesMost)
				wantAlloc(t, h, funBlock(tag, kids...), 0 <= tag && tag <= placesMost)
			}
		}
	}
}

// More kids than there may be are refused, also where they would be read as a block of the next tag.
func TestAllocOfManyKids(t *testing.T) {
	for _, second := range []bool{false, true} {
		for _, many := range []int{0, 1, 2, 18, 19, 20, 21, 22, 32, 63, 64, 65, 84, 85, 127, 128, 129, 1000, 2999} {
			for _, w := range []int{intOf(0), intOf(7), intOf(greatest), headOf(false, 0, 0), headOf(true, 3000, 0)} {
				for _, tag := range []int{0, 5, 2999, 3000} {
					h := emptyHeap(halfMost, second)
					next, _, ok := impl.Alloc(h, many%2 == 0, tag, slices.Repeat([]int{w}, many))
					if ok != (many <= keptMost) || !ok && !sameHeap(next, h) {
						t.Fatalf("with %d kids Alloc is %v", many, ok)
					}
				}
			}
			wantAlloc(t, emptyHeap(halfMost, second), funBlock(5, slices.Repeat([]int{intOf(3)}, many)...), many <= keptMost)
		}
	}
}

func TestAllocOfKids(t *testing.T) {
	for _, second := range []bool{false, true} {
		base := 0
		if second {
			base = 20
		}
		// Blocks stand at base, base and 2, and base and 5; the next one at base and 6.
		h, _ := heapOf(20, second, conBlock(3, intOf(7)), funBlock(1, refOf(base), intOf(-1)), conBlock(0))
		for p := -50; p <= 90; p++ {
			want := slices.Contains([]int{0, 2, 5, 6}, p-base)
			wantAlloc(t, h, conBlock(1, refOf(p)), want)
			wantAlloc(t, h, funBlock(1, intOf(p), refOf(p)), want)
			wantAlloc(t, h, funBlock(1, refOf(p), intOf(p)), want)
			wantAlloc(t, h, conBlock(1, refOf(base), refOf(p), refOf(base+2)), want)
		}
		for _, w := range edgeNumbers() {
			is := w%2 != 0 && intOf(least) <= w && w <= intOf(greatest) || slices.Contains([]int{0, 4, 10, 12}, w-2*base)
			wantAlloc(t, h, conBlock(1, w), is)
			wantAlloc(t, h, funBlock(1, intOf(1), intOf(2), w), is)
		}
		for _, n := range []int{0, 1, -1, greatest, least} {
			wantAlloc(t, h, conBlock(2, intOf(n)), true)
		}
		for _, n := range []int{greatest + 1, least - 1, circle, -circle, 1 << 40} {
			wantAlloc(t, h, conBlock(2, intOf(n)), false)
		}
	}
}

// A kid may be the block itself, since it is a block's place then; it may not be what stands behind that.
func TestAllocOfItself(t *testing.T) {
	for _, second := range []bool{false, true} {
		h := emptyHeap(12, second)
		for range 3 {
			for many := 1; many <= 3; many++ {
				for d := 1; d <= many+1; d++ {
					wantAlloc(t, h, conBlock(1, slices.Repeat([]int{refOf(h.Next + d)}, many)...), false)
				}
			}
			h = wantAlloc(t, h, funBlock(1, refOf(h.Next), refOf(h.Next), intOf(3)), true)
		}
		if impl.Room(h) != 0 {
			t.Errorf("room is %d", impl.Room(h))
		}
		wantAlloc(t, h, conBlock(1), false)
		wantAlloc(t, h, conBlock(1, refOf(h.Next)), false)
	}
}

// Where the room is just enough it is taken, where one word is lacking it is not.
func TestAllocOfRoom(t *testing.T) {
	for _, second := range []bool{false, true} {
		for kids := range 21 {
			b := funBlock(4, slices.Repeat([]int{intOf(6)}, kids)...)
			for room := range 24 {
				for _, used := range []int{0, 1, 30} {
					if used+room == 0 {
						continue
					}
					h := heapAt(used+room, second, slices.Repeat([]int{headOf(true, 9, 0)}, used)...)
					next := wantAlloc(t, h, b, kids < room)
					if kids < room && impl.Room(next) != room-1-kids {
						t.Fatalf("of %d words %d are left behind a block of %d kids", room, impl.Room(next), kids)
					}
				}
			}
		}
		h := heapAt(halfMost, second, slices.Repeat([]int{headOf(false, 1, 0)}, halfMost-21)...)
		wantAlloc(t, h, funBlock(3000, slices.Repeat([]int{refOf(h.Next)}, 20)...), true)
		h = heapAt(halfMost, second, slices.Repeat([]int{headOf(false, 1, 0)}, halfMost-20)...)
		wantAlloc(t, h, funBlock(3000, slices.Repeat([]int{refOf(h.Base)}, 20)...), false)
	}
	wantAlloc(t, emptyHeap(1, false), conBlock(0), true)
	wantAlloc(t, emptyHeap(1, true), conBlock(0), true)
	wantAlloc(t, emptyHeap(1, false), conBlock(0, intOf(1)), false)
	wantAlloc(t, emptyHeap(1, true), conBlock(0, intOf(1)), false)
}

// The other half, and what stands behind the block, are left as they were.
func TestAllocTurnsNothingElse(t *testing.T) {
	for _, second := range []bool{false, true} {
		h := heapAt(10, second, headOf(false, 2, 1), intOf(9))
		for at := range h.Words {
			if at < h.Base || at >= h.Next {
				h.Words[at] = 1000 + at
			}
		}
		next := wantAlloc(t, h, funBlock(7, intOf(4), refOf(h.Base)), true)
		for at := range h.Words {
			taken := h.Next <= at && at < h.Next+3
			if got := next.Words[at]; !taken && got != h.Words[at] || taken && got == 1000+at {
				t.Errorf("the word at %d is %d", at, got)
			}
		}
		if next.Base != h.Base || next.Half != h.Half {
			t.Errorf("it is %s", toldHeap(next))
		}
	}
}

// A heap is filled to its end, and all blocks are there till the last one is.
func TestAllocOfAFullHeap(t *testing.T) {
	s := steps(172)
	for _, half := range []int{1, 2, 3, 30, 300, 3000} {
		for _, second := range []bool{false, true} {
			h := emptyHeap(half, second)
			var list []aBlock
			var places []int
			for impl.Room(h) > 0 {
				b := s.rightBlock(h.Next, places, min(21, impl.Room(h)))
				next, p, ok := impl.Alloc(h, b.fun, b.tag, b.kids)
				if !ok || p != h.Next {
					t.Fatalf("Alloc(%s, %v) is %v", toldHeap(h), b, ok)
				}
				h, list, places = next, append(list, b), append(places, p)
			}
			for i, p := range places {
				if fun, tag, kids, ok := impl.BlockAt(h, p); !ok || !list[i].same(aBlock{fun, tag, kids}) {
					t.Fatalf("at %d there is %v %d %v: %v", p, fun, tag, kids, ok)
				}
			}
			wantHeapOk(t, h, true)
			wantAlloc(t, h, conBlock(0), false)
			want, _ := heapOf(half, second, list...)
			if !sameHeap(h, want) {
				t.Fatalf("a heap of %d words is not as its blocks are", half)
			}
		}
	}
}
