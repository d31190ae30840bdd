package tests

import (
	"math"
	"slices"
	"testing"

	"loop.example/g00323/impl"
)

func TestHeapNew(t *testing.T) {
	for _, half := range []int{1, 2, 3, 5, 64, 1500, 2999, 3000} {
		h, ok := impl.HeapNew(half)
		if want := (impl.Heap{Words: make([]int, 2*half), Half: half}); !ok || !sameHeap(h, want) {
			t.Errorf("HeapNew(%d) is %s and %v", half, toldHeap(h), ok)
		}
		wantHeapOk(t, h, true)
		if got := impl.Room(h); got != half {
			t.Errorf("Room of HeapNew(%d) is %d", half, got)
		}
	}
	for _, half := range []int{0, 3001, 3002, 6000, -1, -2, -3000, -3001, 1 << 40, math.MaxInt, math.MaxInt - 1, math.MinInt, math.MinInt + 1, 1 << 62, -1 << 62, 1<<63 - 3000} {
		if h, ok := impl.HeapNew(half); ok || !sameHeap(h, impl.Heap{}) {
			t.Errorf("HeapNew(%d) is %s and %v", half, toldHeap(h), ok)
		}
	}
	for _, half := range edgeNumbers() {
		if _, ok := impl.HeapNew(half); ok != (1 <= half && half <= halfMost) {
			t.Errorf("HeapNew(%d) is %v", half, ok)
		}
	}
}

// inBothHalves makes a heap of each half; p is where its first block begins.
func inBothHalves(make func(second bool, p int) impl.Heap, half int) [2]impl.Heap {
	return [2]impl.Heap{make(false, 0), make(true, half)}
}

func TestHeapOkOfWhatIsRight(t *testing.T) {
	many := func(second bool, p int) impl.Heap {
		h, _ := heapOf(40, second, conBlock(3, intOf(7)), funBlock(1, refOf(p), intOf(-1)), conBlock(0), funBlock(0), conBlock(3000, refOf(p), refOf(p+2), refOf(p+5), refOf(p+6), intOf(greatest), intOf(least), intOf(0)), funBlock(3000, slices.Repeat([]int{intOf(-3)}, 20)...))
		return h
	}
	kinds := map[string]func(bool, int) impl.Heap{
		"no block":          func(second bool, p int) impl.Heap { return heapAt(40, second) },
		"one block":         func(second bool, p int) impl.Heap { return heapAt(40, second, headOf(false, 0, 0)) },
		"one function":      func(second bool, p int) impl.Heap { return heapAt(40, second, headOf(true, 0, 0)) },
		"many blocks":       many,
		"its own kid":       func(second bool, p int) impl.Heap { return heapAt(40, second, headOf(false, 1, 1), refOf(p)) },
		"its own kid twice": func(second bool, p int) impl.Heap { return heapAt(40, second, headOf(true, 1, 2), refOf(p), refOf(p)) },
		"a kid that lies behind": func(second bool, p int) impl.Heap {
			return heapAt(40, second, headOf(false, 1, 1), refOf(p+2), headOf(false, 0, 0))
		},
		"two that keep each other": func(second bool, p int) impl.Heap {
			return heapAt(40, second, headOf(false, 1, 1), refOf(p+2), headOf(true, 0, 1), refOf(p))
		},
		"a kid that looks as a header": func(second bool, p int) impl.Heap {
			return heapAt(40, second, headOf(false, 1, 1), headOf(false, 5, 63))
		},
		"full of small blocks": func(second bool, p int) impl.Heap {
			return heapAt(40, second, slices.Repeat([]int{headOf(false, 7, 0)}, 40)...)
		},
		"full to the last word": func(second bool, p int) impl.Heap {
			h, _ := heapOf(40, second, funBlock(2, slices.Repeat([]int{refOf(p + 21)}, 20)...), conBlock(9, slices.Repeat([]int{intOf(5)}, 18)...))
			return h
		},
	}
	for name, kind := range kinds {
		for second, h := range inBothHalves(kind, 40) {
			wantHeapOk(t, h, true)
			if t.Failed() {
				t.Fatalf("%s in half %d", name, second)
			}
		}
	}
	for second, h := range inBothHalves(many, 40) {
		if got := impl.Room(h); got != 4 {
			t.Errorf("in half %d room is %d", second, got)
		}
	}
	if h := heapAt(1, true, headOf(false, 0, 0)); !impl.HeapOk(h) || impl.Room(h) != 0 {
		t.Error("the smallest heap is not right when it is full")
	}
	for _, second := range []bool{false, true} {
		wantHeapOk(t, heapAt(halfMost, second, slices.Repeat([]int{headOf(true, 3000, 0)}, halfMost)...), true)
	}
}

// What stands where nothing is in use is nobody's.
func TestHeapOkOfWhatIsNotInUse(t *testing.T) {
	for _, other := range edgeNumbers() {
		for _, second := range []bool{false, true} {
			h := heapAt(5, second, headOf(false, 3, 1), intOf(7))
			for at := range h.Words {
				if at < h.Base || at >= h.Next {
					h.Words[at] = other
				}
			}
			wantHeapOk(t, h, true)
		}
	}
}

func TestHeapOkOfHalves(t *testing.T) {
	words := func(many int) []int { return slices.Repeat([]int{1}, many) }
	for _, half := range []int{1, 2, 5, 2999, 3000} {
		for _, many := range []int{0, 1, half - 1, half, half + 1, 2*half - 1, 2 * half, 2*half + 1, 4 * half} {
			wantHeapOk(t, impl.Heap{Words: words(many), Half: half}, many == 2*half)
			wantHeapOk(t, impl.Heap{Words: words(many), Half: half, Base: half, Next: half}, many == 2*half)
		}
		for _, base := range append([]int{half - 1, half + 1, 2*half - 1, 2 * half, 2*half + 1, -half}, edgeNumbers()...) {
			want := base == 0 || base == half
			wantHeapOk(t, impl.Heap{Words: words(2 * half), Half: half, Base: base, Next: base}, want)
			wantHeapOk(t, impl.Heap{Words: words(2 * half), Half: half, Base: base, Next: base + 1}, want)
			wantHeapOk(t, impl.Heap{Words: words(2 * half), Half: half, Base: base, Next: half}, want)
		}
		for _, base := range []int{0, half} {
			for _, next := range append([]int{half - 1, half, half + 1, 2*half - 1, 2 * half, 2*half + 1, -half}, edgeNumbers()...) {
				wantHeapOk(t, impl.Heap{Words: words(2 * half), Half: half, Base: base, Next: next}, base <= next && next <= base+half)
			}
		}
	}
	for _, half := range []int{0, -1, -3000, 3001, 3002, 4000, math.MaxInt, math.MinInt, 1 << 62, -1 << 62} {
		many := 2 * half
		if many < 0 || many > 8000 {
			many = 0
		}
		wantHeapOk(t, impl.Heap{Words: words(many), Half: half}, false)
		wantHeapOk(t, impl.Heap{Words: words(many), Half: half, Base: half, Next: half}, false)
		wantHeapOk(t, impl.Heap{Words: words(6000), Half: half}, false)
	}
	wantHeapOk(t, impl.Heap{}, false)
}

// Each header: behind it there are as many words as it wants, where that many may be.
func TestHeapOkOfHeaders(t *testing.T) {
	tags := []int{math.MinInt >> 8, -3001, -3000, -64, -2, -1, 0, 1, 2, 59, 60, 2998, 2999, 3000, 3001, 3002, 4096, greatest, circle, 1 << 40, 1 << 55}
	for _, second := range []bool{false, true} {
		for _, fun := range []bool{false, true} {
			for _, tag := range tags {
				for kids := range 64 {
					words := append([]int{headOf(fun, tag, kids)}, slices.Repeat([]int{intOf(4)}, kids)...)
					wantHeapOk(t, heapAt(70, second, words...), 0 <= tag && tag <= placesMost && kids <= keptMost)
				}
			}
		}
	}
	// A header of any word: the numbers that are none, even ones and those below 0 among them.
	for _, second := range []bool{false, true} {
		for w := -3000; w <= 3000; w++ {
			h := heapAt(70, second, append([]int{w}, slices.Repeat([]int{intOf(0)}, 69)...)...)
			holdHeap(t, h)
			if w&1 == 0 && impl.HeapOk(h) {
				t.Fatalf("the header %d is even", w)
			}
		}
		for _, w := range edgeNumbers() {
			for many := range 70 {
				holdHeap(t, heapAt(70, second, append([]int{w}, slices.Repeat([]int{intOf(0)}, many)...)...))
			}
		}
	}
	for _, w := range []int{0, 2, -2, 4, 256, 768002, math.MinInt, math.MaxInt - 1} {
		wantHeapOk(t, heapAt(70, false, w), false)
		wantHeapOk(t, heapAt(70, true, headOf(false, 0, 0), w), false)
	}
}

// A block that reaches behind Next is none, wherever the half ends.
func TestHeapOkOfBlocksThatAreCutOff(t *testing.T) {
	for _, second := range []bool{false, true} {
		for kids := range 21 {
			for many := range kids + 3 {
				for _, half := range []int{many + 1, 30} {
					h := heapAt(half, second, append([]int{headOf(kids%2 == 0, 5, kids)}, slices.Repeat([]int{intOf(0)}, many)...)...)
					// Words behind it are blocks without kids, of tag 0.
					wantHeapOk(t, h, kids <= many)
					// What stands behind Next, right as it is, is not the block's.
					for at := h.Next; at < len(h.Words); at++ {
						h.Words[at] = intOf(0)
					}
					wantHeapOk(t, h, kids <= many)
				}
			}
		}
	}
	h := heapAt(10, false, headOf(false, 1, 2), intOf(1), intOf(2), headOf(true, 1, 1), intOf(3))
	for h.Next = 0; h.Next <= 5; h.Next++ {
		wantHeapOk(t, h, h.Next == 0 || h.Next == 3 || h.Next == 5)
	}
}

// kidHeap is a heap of three blocks, each of which has the word among its kids or not; blocks stand at base, base and 3, and base and 4.
func kidHeap(second bool, which, w int) impl.Heap {
	words := []int{headOf(false, 1, 2), intOf(1), intOf(2), headOf(true, 2, 0), headOf(false, 3, 3), intOf(3), intOf(4), intOf(5)}
	words[which] = w
	return heapAt(12, second, words...)
}

func TestHeapOkOfKids(t *testing.T) {
	for _, which := range []int{1, 2, 5, 6, 7} {
		for _, second := range []bool{false, true} {
			base := 0
			if second {
				base = 12
			}
			for p := -30; p <= 40; p++ {
				wantHeapOk(t, kidHeap(second, which, refOf(p)), p == base || p == base+3 || p == base+4)
			}
			for _, p := range []int{1 << 40, -1 << 40, 1 << 61, math.MinInt / 2, 1<<62 - 1} {
				wantHeapOk(t, kidHeap(second, which, refOf(p)), false)
			}
			for _, n := range []int{0, 1, -1, 7, -7, greatest, greatest - 1, least, least + 1, headOf(true, 2, 0)} {
				wantHeapOk(t, kidHeap(second, which, intOf(n)), true)
			}
			for _, n := range []int{greatest + 1, least - 1, greatest + 2, least - 2, circle, -circle, circle + 1, 1 << 40, -1 << 40, 1<<62 - 1, math.MinInt / 2} {
				wantHeapOk(t, kidHeap(second, which, intOf(n)), false)
			}
			for _, w := range edgeNumbers() {
				holdHeap(t, kidHeap(second, which, w))
			}
		}
	}
	// Without a block at place 0, the word 0 is none; nor is it in a heap whose other half is in use.
	wantHeapOk(t, heapAt(4, false, headOf(false, 1, 1), 0), true)
	wantHeapOk(t, heapAt(4, true, headOf(false, 1, 1), 0), false)
	wantHeapOk(t, heapAt(4, true, headOf(false, 1, 1), refOf(4)), true)
	wantHeapOk(t, heapAt(4, false, headOf(false, 1, 1), refOf(4)), false)
	// A place within a block is none, also where what stands there looks as a header.
	wantHeapOk(t, heapAt(9, false, headOf(false, 1, 1), headOf(false, 0, 0), headOf(false, 1, 1), refOf(1)), false)
	wantHeapOk(t, heapAt(9, false, headOf(false, 1, 1), headOf(false, 0, 0), headOf(false, 1, 1), refOf(2)), true)
	wantHeapOk(t, heapAt(9, false, headOf(false, 1, 1), headOf(false, 0, 0), headOf(false, 1, 1), refOf(3)), false)
	// What looks as a block behind Next, or in the other half, is none.
	h := heapAt(6, false, headOf(false, 1, 1), refOf(2))
	for at := 2; at < 12; at++ {
		h.Words[at] = headOf(false, 0, 0)
	}
	wantHeapOk(t, h, false)
	h.Next = 3
	wantHeapOk(t, h, true)
	h.Words[1] = refOf(6)
	wantHeapOk(t, h, false)
}

// A kid that is wrong is found in each block and at each of its kids.
func TestHeapOkOfEachKid(t *testing.T) {
	for _, second := range []bool{false, true} {
		for kids := 1; kids <= 20; kids++ {
			for which := range kids {
				for blocks := range 4 {
					list := slices.Repeat([]aBlock{funBlock(3, slices.Repeat([]int{intOf(8)}, kids)...)}, 4)
					h, places := heapOf(100, second, list...)
					wantHeapOk(t, h, true)
					h.Words[places[blocks]+1+which] = refOf(places[3-blocks])
					wantHeapOk(t, h, true)
					h.Words[places[blocks]+1+which] += 2
					wantHeapOk(t, h, false)
				}
			}
		}
	}
}

func TestBlockAt(t *testing.T) {
	for _, second := range []bool{false, true} {
		base := 0
		if second {
			base = 50
		}
		list := []aBlock{conBlock(3, intOf(7)), funBlock(1, refOf(base), intOf(-1)), conBlock(0), funBlock(3000), funBlock(0, refOf(base+2), refOf(base+7)), conBlock(3000, slices.Repeat([]int{intOf(least)}, 20)...)}
		h, places := heapOf(50, second, list...)
		for p := -60; p <= 160; p++ {
			fun, tag, kids, ok := impl.BlockAt(h, p)
			i, is := slices.BinarySearch(places, p)
			want := aBlock{}
			if is {
				want = list[i]
			}
			if got := (aBlock{fun, tag, kids}); ok != is || !got.same(want) {
				t.Errorf("BlockAt(%s, %d) is %v and %v", toldHeap(h), p, got, ok)
			}
		}
		for _, p := range farPlaces() {
			if _, is := slices.BinarySearch(places, p); !is {
				wantNoBlock(t, h, p)
			}
		}
		wantNoBlock(t, h, h.Next)
	}
}

func wantNoBlock(t *testing.T, h impl.Heap, p int) {
	t.Helper()
	if fun, tag, kids, ok := impl.BlockAt(h, p); fun || tag != 0 || len(kids) != 0 || ok {
		t.Errorf("BlockAt(%s, %d) is %v, %d, %v and %v", toldHeap(h), p, fun, tag, kids, ok)
	}
}

// wrongHeaps are such that each has a block where it begins, and yet is not right.
func wrongHeaps() []impl.Heap {
	right := func() impl.Heap {
		h, _ := heapOf(12, false, conBlock(3, intOf(7)), funBlock(1, refOf(0), intOf(-1)), conBlock(0))
		return h
	}
	var list []impl.Heap
	for _, wrong := range []func(h *impl.Heap){
		func(h *impl.Heap) { h.Half = 11 },
		func(h *impl.Heap) { h.Half = 13 },
		func(h *impl.Heap) { h.Half = 0 },
		func(h *impl.Heap) { h.Half = -12 },
		func(h *impl.Heap) { h.Half = math.MaxInt },
		func(h *impl.Heap) { h.Half = math.MinInt },
		func(h *impl.Heap) { h.Words = h.Words[:23] },
		func(h *impl.Heap) { h.Words = append(h.Words, 1) },
		func(h *impl.Heap) { h.Words = nil },
		func(h *impl.Heap) { h.Words = slices.Repeat([]int{1}, 6002); h.Half = 3001 },
		func(h *impl.Heap) { h.Base = 1 },
		func(h *impl.Heap) { h.Base = 12 },
		func(h *impl.Heap) { h.Base = 24 },
		func(h *impl.Heap) { h.Base = -12 },
		func(h *impl.Heap) { h.Base = math.MinInt },
		func(h *impl.Heap) { h.Next = -1 },
		func(h *impl.Heap) { h.Next = 13 },
		func(h *impl.Heap) { h.Next = 1 },
		func(h *impl.Heap) { h.Next = 7 },
		func(h *impl.Heap) { h.Next = math.MaxInt },
		func(h *impl.Heap) { h.Next = math.MinInt },
		func(h *impl.Heap) { h.Words[0] = headOf(false, 3, 1) - 1 },
		func(h *impl.Heap) { h.Words[0] = headOf(false, 3001, 1) },
		func(h *impl.Heap) { h.Words[0] = headOf(false, -1, 1) },
		func(h *impl.Heap) { h.Words[5] = headOf(false, 0, 1) },
		func(h *impl.Heap) { h.Words[5] = headOf(false, 0, 21) },
		func(h *impl.Heap) { h.Words[1] = intOf(greatest + 1) },
		func(h *impl.Heap) { h.Words[1] = refOf(1) },
		func(h *impl.Heap) { h.Words[3] = refOf(6) },
		func(h *impl.Heap) { h.Words[3] = refOf(12) },
		func(h *impl.Heap) { h.Words[4] = refOf(-1) },
	} {
		h := right()
		wrong(&h)
		list = append(list, h)
	}
	return append(list, impl.Heap{}, impl.Heap{Words: []int{1, 1}}, impl.Heap{Words: make([]int, 24), Half: 12, Next: 3})
}

// Of a heap that is not right there are no blocks, no room, and nothing is allocated.
func TestWrongHeaps(t *testing.T) {
	for _, h := range wrongHeaps() {
		wantHeapOk(t, h, false)
		if got := impl.Room(h); got != 0 {
			t.Errorf("Room(%s) is %d", toldHeap(h), got)
		}
		for p := -3; p < 30; p++ {
			wantNoBlock(t, h, p)
		}
		for _, p := range farPlaces() {
			wantNoBlock(t, h, p)
		}
		for _, b := range []aBlock{conBlock(0), funBlock(0), conBlock(3, intOf(1)), funBlock(1, refOf(0)), conBlock(-1), conBlock(3001)} {
			if _, _, ok := holdAlloc(t, h, b); ok {
				t.Errorf("Alloc(%s, %v) is true", toldHeap(h), b)
			}
		}
	}
}

func TestRoom(t *testing.T) {
	for _, half := range []int{1, 2, 7, 3000} {
		for _, second := range []bool{false, true} {
			for used := range min(half, 20) + 1 {
				h := heapAt(half, second, slices.Repeat([]int{headOf(false, 5, 0)}, used)...)
				if got := impl.Room(h); got != half-used {
					t.Errorf("with %d words of %d used room is %d", used, half, got)
				}
			}
		}
	}
}
