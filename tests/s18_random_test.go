package tests

import (
	"slices"
	"strings"
	"testing"

	"loop.example/g00323/impl"
)

// rightRoots are some ints and places of blocks, if there are any.
func (s *steps) rightRoots(h impl.Heap) []int {
	blocks, _ := blocksBy(h)
	var places []int
	for p := range blocks {
		places = append(places, p)
	}
	slices.Sort(places)
	var roots []int
	for range s.below(5) {
		switch kind := s.below(4); {
		case kind == 0 || len(places) == 0:
			roots = append(roots, intOf([]int{0, -1, 5, least, greatest, h.Base}[s.below(6)]))
		case kind == 1 && len(roots) > 0:
			roots = append(roots, roots[s.below(len(roots))])
		default:
			roots = append(roots, refOf(places[s.below(len(places))]))
		}
	}
	return roots
}

// turnRoots changes roots at one spot; they may stay right.
func (s *steps) turnRoots(h impl.Heap, roots []int) []int {
	wrong := []int{refOf(h.Next), refOf(h.Base + 1), refOf(-1), refOf(h.Half - h.Base), intOf(greatest + 1), intOf(least - 1), refOf(s.below(2*h.Half + 2)), s.below(99) - 50}[s.below(8)]
	if len(roots) == 0 || s.below(3) == 0 {
		return slices.Insert(slices.Clone(roots), s.below(len(roots)+1), wrong)
	}
	roots = slices.Clone(roots)
	roots[s.below(len(roots))] = wrong
	return roots
}

func TestRandomMoves(t *testing.T) {
	s := steps(181)
	some, all, none := 0, 0, 0
	for i := range 12000 {
		h := s.rightHeap(1 + i%60)
		roots := s.rightRoots(h)
		if !holdMove(t, h, roots) {
			t.Fatalf("%s is not right", toldAsked(h, roots))
		}
		blocks, _ := blocksBy(h)
		switch reached := len(impl.Reach(h, roots)); {
		case reached == 0:
			none++
		case reached == len(blocks):
			all++
		default:
			some++
		}
	}
	if some < 3000 || all < 500 || none < 1000 {
		t.Errorf("some blocks are come to %d times, all %d, none %d", some, all, none)
	}
}

func TestRandomWrongMoves(t *testing.T) {
	s := steps(182)
	met := map[bool]int{}
	for i := range 12000 {
		h := s.rightHeap(1 + i%40)
		roots := s.rightRoots(h)
		if i%2 == 0 {
			roots = s.turnRoots(h, roots)
		} else {
			s.turnHeap(&h)
		}
		met[holdMove(t, h, roots)]++
	}
	if met[true] < 2000 || met[false] < 5000 {
		t.Errorf("it is right and not %v times", met)
	}
}

// All heaps of three blocks of up to two kids, each of which is an int or one of the three, with all pairs of roots.
func TestSmallMoves(t *testing.T) {
	var lists [][]int
	kinds := []int{-1, 0, 1, 2}
	for _, a := range kinds {
		lists = append(lists, []int{a})
		for _, b := range kinds {
			lists = append(lists, []int{a, b})
		}
	}
	lists = append(lists, nil)
	many := 0
	for i, a := range lists {
		for j, b := range lists {
			for k, c := range lists {
				second := (i+j+k)%2 == 0
				h, places := heapOfKids(9, second, a, b, c)
				for _, roots := range kidLists(places) {
					holdMove(t, h, roots)
					many++
				}
			}
		}
	}
	if many != 21*21*21*13 {
		t.Errorf("there are %d moves", many)
	}
}

// heapOfKids is a heap of as many blocks as there are lists, each of which tells kids: which block, or the int -1.
func heapOfKids(half int, second bool, lists ...[]int) (impl.Heap, []int) {
	var list []aBlock
	for i, kids := range lists {
		list = append(list, aBlock{i == 1, i, slices.Clone(kids)})
	}
	_, places := heapOf(half, second, list...)
	for i, kids := range lists {
		for k, which := range kids {
			list[i].kids[k] = intOf(-1)
			if which >= 0 {
				list[i].kids[k] = refOf(places[which])
			}
		}
	}
	return heapOf(half, second, list...)
}

// kidLists are no root, each alone, and all pairs of places.
func kidLists(places []int) [][]int {
	lists := [][]int{nil}
	for _, p := range places {
		lists = append(lists, []int{refOf(p)})
		for _, q := range places {
			lists = append(lists, []int{refOf(p), refOf(q)})
		}
	}
	return lists
}

// holder is a heap at work, which is moved now and then, and the words that it holds on to.
type holder struct {
	heap  impl.Heap
	roots []int
	moves int
}

func (o *holder) move() {
	o.heap, o.roots = impl.Collect(o.heap, o.roots)
	o.moves++
}

// add makes a block whose kids are some of its roots, or, by -1, itself, moving the heap where there is no room; false where there is none then.
func (o *holder) add(fun bool, tag int, which []int) bool {
	for range 2 {
		var kids []int
		for _, i := range which {
			if i < 0 {
				kids = append(kids, refOf(o.heap.Next))
			} else {
				kids = append(kids, o.roots[i])
			}
		}
		h, p, ok := impl.Alloc(o.heap, fun, tag, kids)
		if ok {
			o.heap, o.roots = h, append(o.roots, refOf(p))
			return true
		}
		o.move()
	}
	return false
}

func (o *holder) drop(i int) { o.roots = slices.Delete(slices.Clone(o.roots), i, i+1) }

// However small it is, and whenever it is moved, a heap is seen as one that is never moved; there is no room only where what is held leaves too little.
func TestMovedWheneverItMayBe(t *testing.T) {
	s := steps(183)
	moves, lacks := 0, 0
	for range 150 {
		never := &holder{heap: emptyHeap(halfMost, false)}
		small := &holder{heap: emptyHeap(20+s.below(60), s.below(2) == 0)}
		often := &holder{heap: emptyHeap(200, false)}
		for range 120 {
			switch kind := s.below(6); {
			case kind == 0 || len(never.roots) == 0:
				w := intOf(s.below(100) - 50)
				for _, o := range []*holder{never, small, often} {
					o.roots = append(slices.Clone(o.roots), w)
				}
			case kind < 3:
				i := s.below(len(never.roots))
				for _, o := range []*holder{never, small, often} {
					o.drop(i)
				}
			default:
				var which []int
				for range s.below(4) {
					which = append(which, s.below(len(never.roots)+1)-1)
				}
				fun, tag := s.below(2) == 0, s.below(60)
				often.move()
				if !small.add(fun, tag, which) {
					lacks++
					if impl.Room(small.heap) > len(which) || impl.Room(small.heap) != small.heap.Half-heldBy(never) {
						t.Fatalf("there is no room for %d kids in %s", len(which), toldHeap(small.heap))
					}
					small.roots = append(slices.Clone(small.roots), intOf(0))
					never.roots = append(slices.Clone(never.roots), intOf(0))
					often.roots = append(slices.Clone(often.roots), intOf(0))
				} else if !never.add(fun, tag, which) || !often.add(fun, tag, which) {
					t.Fatal("a great heap has no room")
				}
			}
			want := impl.Shape(never.heap, never.roots)
			if want == "" || impl.Shape(small.heap, small.roots) != want || impl.Shape(often.heap, often.roots) != want {
				t.Fatalf("seen otherwise: %q, %s, %s", want, toldAsked(small.heap, small.roots), toldAsked(often.heap, often.roots))
			}
		}
		if never.moves > 0 || !isAlike(never.heap, never.roots, small.heap, small.roots) {
			t.Fatalf("%s is another one", toldAsked(small.heap, small.roots))
		}
		moves += small.moves
	}
	if moves < 1000 || lacks < 200 {
		t.Errorf("small heaps are moved %d times, and lack room %d times", moves, lacks)
	}
}

// heldBy is how many words the blocks take that are come to.
func heldBy(o *holder) int {
	held := 0
	for _, p := range impl.Reach(o.heap, o.roots) {
		_, _, kids, _ := impl.BlockAt(o.heap, p)
		held += 1 + len(kids)
	}
	return held
}

// holdMoveMemory holds that neither a heap nor roots are written into, nor the room behind them, and that what is answered is new.
func holdMoveMemory(t *testing.T, h impl.Heap, roots []int) bool {
	t.Helper()
	h, roots = heapWithRoom(h), roomBehind(roots, 77)
	whole, wholeRoots := slices.Clone(h.Words[:cap(h.Words)]), slices.Clone(roots[:cap(roots)])
	var own pieces
	addList(&own, h.Words)
	addList(&own, roots)
	wantPlaces, wantText := impl.Reach(h, roots), impl.Shape(h, roots)
	own.addText(wantText)
	wantHeap, wantNow := impl.Collect(h, roots)
	var lists [][]int
	for range 2 {
		m, now := impl.Collect(h, roots)
		lists = append(lists, impl.Reach(h, roots), m.Words, now)
	}
	for _, list := range append(lists, wantPlaces, wantHeap.Words, wantNow) {
		addList(&own, list)
	}
	if own.overlap() {
		t.Fatalf("what is answered of %s shares memory", toldAsked(h, roots))
	}
	text := strings.Clone(wantText)
	for _, list := range lists {
		for i := range list[:cap(list)] {
			list[:cap(list)][i] = 99
		}
	}
	if !slices.Equal(h.Words[:cap(h.Words)], whole) || !slices.Equal(roots[:cap(roots)], wholeRoots) {
		t.Fatalf("%s is written into", toldAsked(h, roots))
	}
	m, now := impl.Collect(h, roots)
	if !sameHeap(m, wantHeap) || !slices.Equal(now, wantNow) || !slices.Equal(impl.Reach(h, roots), wantPlaces) || wantText != text {
		t.Fatalf("asked again, %s is told otherwise", toldAsked(h, roots))
	}
	return text != ""
}

func TestMovesAreNewMemory(t *testing.T) {
	s := steps(184)
	met := map[bool]int{}
	for i := range 6000 {
		h := s.rightHeap(1 + i%50)
		roots := s.rightRoots(h)
		switch i % 4 {
		case 0:
			s.turnHeap(&h)
		case 1:
			roots = s.turnRoots(h, roots)
		}
		met[holdMoveMemory(t, h, roots)]++
	}
	if met[true] < 2500 || met[false] < 1500 {
		t.Errorf("it is right and not %v times", met)
	}
	for _, h := range wrongHeaps() {
		holdMoveMemory(t, h, nil)
		holdMoveMemory(t, h, []int{intOf(1), refOf(0)})
	}
}

// Roots may be a piece of the heap's own words: both are read as they were.
func TestMovesOfRootsThatAreTheHeaps(t *testing.T) {
	movedBoth(24, func(second bool, from int) {
		h := someBlocks(second, from)
		fillElsewhere(h, refOf(from+5))
		for a := range h.Words {
			for b := a; b <= min(a+6, len(h.Words)); b++ {
				kept := copyHeap(h)
				holdMove(t, h, h.Words[a:b])
				if !sameHeap(h, kept) {
					t.Fatalf("%s is written into", toldHeap(kept))
				}
			}
		}
	})
}

// All are asked at once: what one is told hangs on none of the others.
func TestMovesAtOnce(t *testing.T) {
	movedBoth(24, func(second bool, from int) {
		h, roots := someBlocks(second, from), refsOf(from, 12, 6, 12)
		want, wantNow := impl.Collect(h, roots)
		text, places := impl.Shape(h, roots), impl.Reach(h, roots)
		done := make(chan bool)
		for range 8 {
			go func() {
				same := true
				for range 200 {
					m, now := impl.Collect(h, roots)
					same = same && sameHeap(m, want) && slices.Equal(now, wantNow)
					same = same && impl.Shape(h, roots) == text && impl.Shape(m, now) == text && slices.Equal(impl.Reach(h, roots), places)
				}
				done <- same
			}()
		}
		for range 8 {
			if !<-done {
				t.Error("asked at once it is told otherwise")
			}
		}
	})
}

// Great lists are answered, whatever they hold.
func TestMovesOfGreatLists(t *testing.T) {
	const many = 2000000
	for _, w := range []int{0, 1, 2, -1, headOf(true, 5, 20), intOf(greatest + 1)} {
		words := slices.Repeat([]int{w}, many)
		quickly(t, "a great list", func() {
			for _, half := range []int{many / 2, 1, 3000, 0, -1} {
				wrong := impl.Heap{Words: words, Half: half, Next: many / 2}
				m, now := impl.Collect(wrong, words)
				if !sameHeap(m, wrong) || !slices.Equal(now, words) || len(impl.Reach(wrong, words)) > 0 || impl.Shape(wrong, words) != "" {
					t.Errorf("a great heap of %d is right", w)
				}
			}
			h := heapAt(5, false, headOf(false, 3, 0), headOf(false, 4, 0))
			m, now := impl.Collect(h, words)
			text := impl.Shape(h, words)
			if _, is := rootsBy(h, words[:1]); !is {
				if !sameHeap(m, h) || !slices.Equal(now, words) || text != "" {
					t.Errorf("many roots of %d are right", w)
				}
			} else if len(now) != many || len(text) < 2*many || strings.Count(text, " ") < many || impl.Shape(m, now) != text {
				t.Errorf("many roots of %d are told as %.100q", w, text)
			}
		})
	}
}
