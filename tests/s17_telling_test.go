package tests

import (
	"fmt"
	"math/big"
	"slices"
	"testing"

	"loop.example/g00323/impl"
)

const halfMost = 3000

// aBlock is a block as the chapter tells it.
type aBlock struct {
	fun  bool
	tag  int
	kids []int
}

func conBlock(tag int, kids ...int) aBlock { return aBlock{false, tag, kids} }

func funBlock(tag int, kids ...int) aBlock { return aBlock{true, tag, kids} }

func (b aBlock) same(c aBlock) bool {
	return b.fun == c.fun && b.tag == c.tag && slices.Equal(b.kids, c.kids)
}

// intOf and refOf are words, right or not, without the package's own functions.
func intOf(n int) int { return n + n + 1 }

func refOf(p int) int { return p + p }

// headOf is a header, right or not.
func headOf(fun bool, tag, kids int) int {
	n := 128*tag + 2*kids
	if fun {
		n++
	}
	return intOf(n)
}

func (b aBlock) words() []int { return append([]int{headOf(b.fun, b.tag, len(b.kids))}, b.kids...) }

// aHead is what a header tells.
type aHead struct {
	fun       bool
	tag, kids int
}

// headTable is each header that may be, by its word: the second telling looks it up and reckons nothing.
var headTable = func() map[int]aHead {
	table := map[int]aHead{}
	for tag := 0; tag <= placesMost; tag++ {
		for kids := 0; kids <= keptMost; kids++ {
			table[headOf(false, tag, kids)] = aHead{false, tag, kids}
			table[headOf(true, tag, kids)] = aHead{true, tag, kids}
		}
	}
	return table
}()

// blocksBy is the second telling of HeapOk: the blocks by their places, and whether it is right.
func blocksBy(h impl.Heap) (map[int]aBlock, bool) {
	if h.Half < 1 || h.Half > halfMost || len(h.Words) != h.Half+h.Half || h.Base != 0 && h.Base != h.Half {
		return nil, false
	}
	if used := h.Next - h.Base; h.Next < 0 || used < 0 || used > h.Half {
		return nil, false
	}
	blocks := map[int]aBlock{}
	at, left := h.Base, h.Words[h.Base:h.Next]
	for len(left) > 0 {
		head, is := headTable[left[0]]
		if !is || head.kids >= len(left) {
			return nil, false
		}
		blocks[at] = aBlock{head.fun, head.tag, left[1 : 1+head.kids]}
		at, left = at+1+head.kids, left[1+head.kids:]
	}
	for _, b := range blocks {
		for _, w := range b.kids {
			if !kidBy(blocks, w) {
				return nil, false
			}
		}
	}
	return blocks, true
}

// kidBy looks among all blocks for one whose place the word is.
func kidBy(blocks map[int]aBlock, w int) bool {
	if w%2 != 0 {
		return intOf(least) <= w && w <= intOf(greatest)
	}
	_, is := blocks[w/2]
	return is
}

func copyHeap(h impl.Heap) impl.Heap {
	h.Words = slices.Clone(h.Words)
	return h
}

func sameHeap(a, b impl.Heap) bool {
	return a.Half == b.Half && a.Base == b.Base && a.Next == b.Next && slices.Equal(a.Words, b.Words)
}

func toldHeap(h impl.Heap) string {
	return fmt.Sprintf("half %d base %d next %d words %.400s", h.Half, h.Base, h.Next, fmt.Sprint(h.Words))
}

// allocBy is the second telling of Alloc: the words are put there, and what comes of it is asked for as a whole.
func allocBy(h impl.Heap, b aBlock) (impl.Heap, int, bool) {
	kept := copyHeap(h)
	if _, is := blocksBy(h); !is || h.Base+h.Half-h.Next <= len(b.kids) {
		return kept, 0, false
	}
	next := copyHeap(h)
	if b.tag < 0 || b.tag > placesMost {
		return kept, 0, false
	}
	copy(next.Words[h.Next:], b.words())
	next.Next += 1 + len(b.kids)
	blocks, is := blocksBy(next)
	// Where the block is not read as it is, there is none such.
	if !is || !blocks[h.Next].same(b) {
		return kept, 0, false
	}
	return next, h.Next, true
}

func roomBy(h impl.Heap) int {
	if _, is := blocksBy(h); !is {
		return 0
	}
	end := h.Half
	if h.Base > 0 {
		end += h.Half
	}
	return end - h.Next
}

// halfDown is half of a number, cut downwards, by numbers without end.
func halfDown(w int) int {
	// Euclid's division cuts downwards by a divisor above 0.
	return int(new(big.Int).Div(big.NewInt(int64(w)), big.NewInt(2)).Int64())
}

// heapAt is a heap with words from its Base on, right or not; what stands elsewhere is no word of a heap.
func heapAt(half int, second bool, words ...int) impl.Heap {
	h := impl.Heap{Words: slices.Repeat([]int{-7777}, 2*half), Half: half}
	if second {
		h.Base = half
	}
	h.Next = h.Base + copy(h.Words[h.Base:], words)
	return h
}

// heapOf is a heap of blocks one behind the other, and the place of each one.
func heapOf(half int, second bool, blocks ...aBlock) (impl.Heap, []int) {
	var words, places []int
	for _, b := range blocks {
		at := len(words)
		if second {
			at += half
		}
		places, words = append(places, at), append(words, b.words()...)
	}
	return heapAt(half, second, words...), places
}

// wantHeapOk holds HeapOk, and with it BlockAt at all places and Room.
func wantHeapOk(t *testing.T, h impl.Heap, want bool) {
	t.Helper()
	if _, is := blocksBy(h); is != want {
		t.Errorf("the second telling of HeapOk(%s) is %v", toldHeap(h), is)
	}
	if got := impl.HeapOk(h); got != want {
		t.Errorf("HeapOk(%s) is %v", toldHeap(h), got)
	}
	holdHeap(t, h)
}

// farPlaces are places that no heap has.
func farPlaces() []int {
	far := []int{-1, -2, -3, -64, -3000, -6000, 5999, 6000, 6001, 6002, 12000, 1 << 20}
	return append(far, edgeNumbers()...)
}

// holdHeap holds HeapOk, Room and BlockAt against their second tellings.
func holdHeap(t *testing.T, h impl.Heap) bool {
	t.Helper()
	blocks, is := blocksBy(h)
	if got := impl.HeapOk(h); got != is {
		t.Fatalf("HeapOk(%s) is %v", toldHeap(h), got)
	}
	if got := impl.Room(h); got != roomBy(h) {
		t.Fatalf("Room(%s) is %d, not %d", toldHeap(h), got, roomBy(h))
	}
	for p := -3; p <= min(len(h.Words), 60)+3; p++ {
		holdBlock(t, h, blocks, p)
	}
	for p := range blocks {
		holdBlock(t, h, blocks, p)
	}
	for _, p := range []int{h.Base, h.Next - 1, h.Next, h.Next + 1, h.Half, 2 * h.Half, -h.Half} {
		holdBlock(t, h, blocks, p)
	}
	return is
}

func holdBlock(t *testing.T, h impl.Heap, blocks map[int]aBlock, p int) {
	t.Helper()
	fun, tag, kids, ok := impl.BlockAt(h, p)
	want, is := blocks[p]
	if got := (aBlock{fun, tag, kids}); ok != is || !got.same(want) {
		t.Fatalf("BlockAt(%s, %d) is %v and %v, not %v and %v", toldHeap(h), p, got, ok, want, is)
	}
}

// holdAlloc holds the promise: what is allocated is there, all else is as it was, and Room is less by what it took; where it is false, all is as it was.
func holdAlloc(t *testing.T, h impl.Heap, b aBlock) (impl.Heap, int, bool) {
	t.Helper()
	ahead, _ := blocksBy(h)
	room := impl.Room(h)
	next, p, ok := impl.Alloc(h, b.fun, b.tag, b.kids)
	wantNext, wantP, want := allocBy(h, b)
	if ok != want || p != wantP || !sameHeap(next, wantNext) {
		t.Fatalf("Alloc(%s, %v) is %s, %d and %v, not %s, %d and %v", toldHeap(h), b, toldHeap(next), p, ok, toldHeap(wantNext), wantP, want)
	}
	if !ok {
		if p != 0 || !sameHeap(next, h) || impl.Room(next) != room {
			t.Fatalf("Alloc(%s, %v) is false, and %s and %d", toldHeap(h), b, toldHeap(next), p)
		}
		return next, p, ok
	}
	if !impl.HeapOk(next) || p != h.Next || impl.Room(next) != room-1-len(b.kids) {
		t.Fatalf("behind Alloc(%s, %v) room is %d, not %d less %d", toldHeap(h), b, impl.Room(next), room, 1+len(b.kids))
	}
	if fun, tag, kids, there := impl.BlockAt(next, p); !there || !b.same(aBlock{fun, tag, kids}) {
		t.Fatalf("Alloc(%s, %v) is there as %v %d %v: %v", toldHeap(h), b, fun, tag, kids, there)
	}
	ahead[p] = b
	behind, _ := blocksBy(next)
	if len(behind) != len(ahead) {
		t.Fatalf("behind Alloc(%s, %v) there are %d blocks", toldHeap(h), b, len(behind))
	}
	for at := range behind {
		holdBlock(t, next, ahead, at)
	}
	return next, p, ok
}

func TestHeapConstants(t *testing.T) {
	if impl.MaxHalf != halfMost || len(headTable) != 3001*21*2 {
		t.Errorf("MaxHalf is %d, and there are %d headers", impl.MaxHalf, len(headTable))
	}
}
