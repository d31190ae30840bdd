package tests

import (
	"slices"
	"testing"

	"loop.example/g00323/impl"
)

// rightBlock is a block that takes at most so many words; its kids are ints, blocks of places, or itself at own.
func (s *steps) rightBlock(own int, places []int, most int) aBlock {
	b := aBlock{fun: s.below(2) == 0, tag: s.below(placesMost + 1)}
	if s.below(4) == 0 {
		b.tag = []int{0, placesMost}[s.below(2)]
	}
	if s.below(3) > 0 {
		most = min(most, 5)
	}
	for left := s.below(min(most, 21)); left > 0; left-- {
		b.kids = append(b.kids, s.rightKid(own, places))
	}
	return b
}

func (s *steps) rightKid(own int, places []int) int {
	switch kind := s.below(8); {
	case kind < 3 && len(places) > 0:
		return refOf(places[s.below(len(places))])
	case kind < 4:
		return refOf(own)
	case kind < 5:
		return intOf([]int{least, greatest, 0, -1, 1}[s.below(5)])
	}
	return intOf(s.below(1000) - 500)
}

// rightHeap is a heap of some blocks, whose kids may be any of them.
func (s *steps) rightHeap(most int) impl.Heap {
	half := 1 + s.below(most)
	var list []aBlock
	for left := s.below(half + 1); left > 0; {
		b := s.rightBlock(0, nil, left)
		list = append(list, b)
		left -= 1 + len(b.kids)
	}
	h, places := heapOf(half, s.below(2) == 0, list...)
	for i, b := range list {
		for k := range b.kids {
			h.Words[places[i]+1+k] = s.rightKid(places[i], places)
		}
	}
	for at := range h.Words {
		if at < h.Base || at >= h.Next {
			h.Words[at] = s.below(9) - 4
		}
	}
	return h
}

// turnHeap changes a heap at one spot; it may stay right.
func (s *steps) turnHeap(h *impl.Heap) {
	at := 0
	if len(h.Words) > 0 {
		at = s.below(len(h.Words))
	}
	switch kind := s.below(12); {
	case kind == 0:
		h.Half += s.below(3) - 1
	case kind == 1:
		h.Base = []int{0, h.Half, h.Base + 1, h.Base - 1, -h.Half}[s.below(5)]
	case kind < 4:
		h.Next += s.below(3) - 1
	case kind == 4:
		h.Base, h.Next = h.Half-h.Base, h.Next+h.Half-2*h.Base
	case kind == 5 && len(h.Words) > 0:
		h.Words = h.Words[:len(h.Words)-1]
	case kind == 6:
		h.Words = append(h.Words, 1)
	case len(h.Words) == 0:
	case kind == 7:
		h.Words[at] = someNumber(s)
	case kind == 8:
		h.Words[at] += s.below(5) - 2
	case kind == 9:
		h.Words[at] = refOf(s.below(len(h.Words)+2) - 1)
	case kind == 10:
		h.Words[at] = headOf(s.below(2) == 0, s.below(3002)-1, s.below(24))
	default:
		h.Words[at] = h.Words[s.below(len(h.Words))]
	}
}

func TestRandomHeaps(t *testing.T) {
	s := steps(173)
	met := map[bool]int{}
	for i := range 40000 {
		h := s.rightHeap(1 + i%60)
		if !holdHeap(t, h) {
			t.Fatalf("%s is not right", toldHeap(h))
		}
		for left := 1 + s.below(2); left > 0; left-- {
			s.turnHeap(&h)
		}
		met[holdHeap(t, h)]++
	}
	if met[true] < 8000 || met[false] < 15000 {
		t.Errorf("heaps are right and not %v times", met)
	}
}

// Heaps of a few words, each of which is any of a few that mean something.
func TestSmallHeaps(t *testing.T) {
	words := []int{0, 2, 4, 6, 8, 10, -2, 1, 5, 9, -1, 3, 11, headOf(false, 3001, 0), intOf(greatest + 1)}
	met := map[bool]int{}
	var grow func(row []int, second bool)
	grow = func(row []int, second bool) {
		for used := len(row); used <= len(row)+1; used++ {
			if used > 0 {
				met[holdHeap(t, heapAt(used, second, row...))]++
			}
		}
		if len(row) == 4 {
			return
		}
		for _, w := range words {
			grow(append(slices.Clone(row), w), second)
		}
	}
	grow(nil, false)
	grow(nil, true)
	if met[true] < 1000 || met[false] < 100000 {
		t.Errorf("heaps are right and not %v times", met)
	}
}

// turnBlock changes a block at one spot; it may stay right.
func (s *steps) turnBlock(b *aBlock) {
	switch kind := s.below(5); {
	case kind == 0:
		b.tag = []int{-1, 0, placesMost, placesMost + 1, 1 << 57, someNumber(s)}[s.below(6)]
	case kind == 1:
		b.kids = append(b.kids, slices.Repeat([]int{intOf(1)}, s.below(30))...)
	case kind == 2 && len(b.kids) > 0:
		b.kids[s.below(len(b.kids))] += s.below(5) - 2
	case kind == 3 && len(b.kids) > 0:
		b.kids[s.below(len(b.kids))] = someNumber(s)
	default:
		b.kids = append(b.kids, refOf(s.below(70)-1))
	}
}

func TestRandomAllocs(t *testing.T) {
	s := steps(174)
	met := map[bool]int{}
	for i := range 4000 {
		h := s.rightHeap(1 + i%80)
		if i%5 == 0 {
			s.turnHeap(&h)
		}
		for range 8 {
			blocks, _ := blocksBy(h)
			var places []int
			for p := range blocks {
				places = append(places, p)
			}
			slices.Sort(places)
			b := s.rightBlock(h.Next, places, 21)
			if s.below(2) == 0 {
				s.turnBlock(&b)
			}
			next, _, ok := holdAlloc(t, h, b)
			met[ok]++
			h = next
		}
	}
	if met[true] < 5000 || met[false] < 10000 {
		t.Errorf("blocks are allocated %v times", met)
	}
}

func heapWithRoom(h impl.Heap) impl.Heap {
	h.Words = roomBehind(h.Words, 77)
	return h
}

// holdHeapMemory holds that neither a heap nor kids are written into, nor the room behind them, and that what is answered is new.
func holdHeapMemory(t *testing.T, h impl.Heap, b aBlock) bool {
	t.Helper()
	h = heapWithRoom(h)
	kids := roomBehind(b.kids, 77)
	whole, wholeKids := slices.Clone(h.Words[:cap(h.Words)]), slices.Clone(kids[:cap(kids)])
	first, p, ok := impl.Alloc(h, b.fun, b.tag, kids)
	second, _, _ := impl.Alloc(h, b.fun, b.tag, kids)
	want := copyHeap(first)
	var own pieces
	addList(&own, h.Words)
	addList(&own, kids)
	addList(&own, first.Words)
	addList(&own, second.Words)
	for at := h.Base; at <= h.Next && at < h.Base+30; at++ {
		_, _, one, _ := impl.BlockAt(h, at)
		_, _, other, _ := impl.BlockAt(h, at)
		addList(&own, one)
		addList(&own, other)
		for i := range one[:cap(one)] {
			one[:cap(one)][i] = 99
		}
	}
	_, _, made, _ := impl.BlockAt(first, p)
	addList(&own, made)
	if own.overlap() {
		t.Fatalf("what is answered of %s shares memory", toldHeap(h))
	}
	for i := range first.Words[:cap(first.Words)] {
		first.Words[:cap(first.Words)][i] = 99
	}
	impl.HeapOk(h)
	impl.Room(h)
	if !slices.Equal(h.Words[:cap(h.Words)], whole) || !slices.Equal(kids[:cap(kids)], wholeKids) {
		t.Fatalf("%s or %v is written into", toldHeap(h), b)
	}
	if again, place, still := impl.Alloc(h, b.fun, b.tag, kids); still != ok || place != p || !sameHeap(again, want) || !sameHeap(second, want) {
		t.Fatalf("asked again, %s and %v are told otherwise", toldHeap(h), b)
	}
	return ok
}

func TestHeapsAreNewMemory(t *testing.T) {
	s := steps(175)
	met := map[bool]int{}
	for i := range 8000 {
		h := s.rightHeap(1 + i%60)
		b := s.rightBlock(h.Next, nil, 21)
		if i%3 == 0 {
			s.turnHeap(&h)
		}
		if i%4 == 0 {
			s.turnBlock(&b)
		}
		met[holdHeapMemory(t, h, b)]++
	}
	if met[true] < 1500 || met[false] < 2000 {
		t.Errorf("blocks are allocated %v times", met)
	}
	for _, h := range wrongHeaps() {
		holdHeapMemory(t, h, conBlock(0, intOf(1)))
	}
	one, _ := impl.HeapNew(8)
	other, _ := impl.HeapNew(8)
	one.Words[3] = 99
	if third, _ := impl.HeapNew(8); other.Words[3] != 0 || third.Words[3] != 0 {
		t.Error("new heaps share their words")
	}
}

// Kids may be a piece of the heap's own words: they are read as they were.
func TestAllocOfKidsThatAreTheHeaps(t *testing.T) {
	for _, second := range []bool{false, true} {
		h := heapAt(10, second, headOf(false, 2, 3), intOf(9), intOf(8), intOf(7))
		for from := h.Base + 1; from <= h.Next; from++ {
			for to := from; to <= h.Next; to++ {
				kept := copyHeap(h)
				wantAlloc(t, h, funBlock(5, h.Words[from:to]...), true)
				if !sameHeap(h, kept) {
					t.Fatalf("%s is written into", toldHeap(kept))
				}
			}
		}
		// What stands behind Next is where the block comes to stand.
		h.Words[h.Next], h.Words[h.Next+1] = intOf(5), intOf(6)
		wantAlloc(t, h, conBlock(5, h.Words[h.Next:h.Next+2]...), true)
	}
}

// All heaps are asked at once: what one is told hangs on none of the others.
func TestHeapsAtOnce(t *testing.T) {
	s := steps(176)
	h := s.rightHeap(200)
	for impl.Room(h) < 2 {
		h = s.rightHeap(200)
	}
	want, place, is := impl.Alloc(h, true, 7, []int{intOf(3)})
	done := make(chan bool)
	for range 8 {
		go func() {
			same := true
			for range 200 {
				got, p, ok := impl.Alloc(h, true, 7, []int{intOf(3)})
				_, _, kids, there := impl.BlockAt(got, p)
				same = same && ok && is && p == place && sameHeap(got, want) && there && slices.Equal(kids, []int{intOf(3)})
			}
			done <- same
		}()
	}
	for range 8 {
		if !<-done {
			t.Error("asked at once it is told otherwise")
		}
	}
}

// Great lists are answered, whatever they hold.
func TestGreatHeaps(t *testing.T) {
	const many = 4000000
	for _, w := range []int{0, 1, 2, -1, headOf(true, 5, 20)} {
		words := slices.Repeat([]int{w}, many)
		quickly(t, "a great heap", func() {
			for _, half := range []int{many / 2, 1, 3000, 0, -1} {
				h := impl.Heap{Words: words, Half: half, Next: many / 2}
				wantNoBlock(t, h, 0)
				if next, p, ok := impl.Alloc(h, false, 0, words); ok || p != 0 || !sameHeap(next, h) || impl.HeapOk(h) || impl.Room(h) != 0 {
					t.Errorf("a great heap of %d is right", w)
				}
			}
			h, _ := impl.HeapNew(3000)
			if next, _, ok := impl.Alloc(h, false, 0, words); ok || !sameHeap(next, h) {
				t.Errorf("many kids of %d are taken", w)
			}
		})
	}
}
