package tests

import (
	"slices"
	"testing"

	"loop.example/g00323/impl"
)

func wantCollect(t *testing.T, h impl.Heap, roots []int, want impl.Heap, wantNow []int) {
	t.Helper()
	m, now := impl.Collect(h, roots)
	if !sameHeap(m, want) || !slices.Equal(now, wantNow) {
		t.Errorf("Collect(%s) is %s, not %s", toldAsked(h, roots), toldAsked(m, now), toldAsked(want, wantNow))
	}
	if !holdMove(t, h, roots) {
		t.Errorf("%s is not right", toldAsked(h, roots))
	}
}

// zeroHeap is a heap whose words are 0 but for those from its Base on.
func zeroHeap(half int, second bool, words ...int) impl.Heap {
	h := impl.Heap{Words: make([]int, 2*half), Half: half}
	if second {
		h.Base = half
	}
	h.Next = h.Base + copy(h.Words[h.Base:], words)
	return h
}

// All numbers are written out, those of headers too.
func TestCollectByHand(t *testing.T) {
	h := impl.Heap{Words: []int{
		773, 15, // at 0: con 3 of 7
		267, 0, 0, // at 2: fun 1, twice the one at 0
		1,           // at 5: con 0
		519, 4, 773, // at 6: fun 2 of the one at 2; the last word stands behind Next
		9, 9, 9,
		5, 5, 5, 5, 5, 5, 5, 5, 5, 5, 5, 5,
	}, Half: 12, Next: 8}
	m, now := impl.Collect(h, []int{12, 19, 0, 12, -3})
	want := impl.Heap{Words: []int{
		0, 0, 0, 0, 0, 0, 0, 0, 0, 0, 0, 0,
		519, 32, // at 12: what was at 6, whose kid is at 16
		773, 15, // at 14: what was at 0
		267, 28, 28, // at 16: what was at 2
		0, 0, 0, 0, 0,
	}, Half: 12, Base: 12, Next: 19}
	if !sameHeap(m, want) || !slices.Equal(now, []int{24, 19, 28, 24, -3}) {
		t.Fatalf("it is moved to %s", toldAsked(m, now))
	}
	m, now = impl.Collect(m, []int{32, 32, 1})
	want = impl.Heap{Words: []int{
		267, 6, 6, 773, 15, 0, 0, 0, 0, 0, 0, 0,
		0, 0, 0, 0, 0, 0, 0, 0, 0, 0, 0, 0,
	}, Half: 12, Next: 5}
	if !sameHeap(m, want) || !slices.Equal(now, []int{0, 0, 1}) {
		t.Fatalf("then it is moved to %s", toldAsked(m, now))
	}
	m, now = impl.Collect(m, nil)
	if want := (impl.Heap{Words: make([]int, 24), Half: 12, Base: 12, Next: 12}); !sameHeap(m, want) || len(now) != 0 {
		t.Fatalf("at last it is moved to %s", toldAsked(m, now))
	}
}

func TestCollectOfNothing(t *testing.T) {
	for _, half := range []int{1, 2, 12, 3000} {
		for _, second := range []bool{false, true} {
			for _, roots := range [][]int{nil, {intOf(0)}, {intOf(4), intOf(least), intOf(greatest), intOf(4)}} {
				wantCollect(t, emptyHeap(half, second), roots, zeroHeap(half, !second), roots)
				full := heapAt(half, second, slices.Repeat([]int{headOf(true, 7, 0)}, half)...)
				wantCollect(t, full, roots, zeroHeap(half, !second), roots)
			}
		}
	}
}

// Of blocks that have no kids, those that are roots are moved, in the order of the roots.
func TestCollectOfLeaves(t *testing.T) {
	movedBoth(9, func(second bool, from int) {
		to := 9 - from
		h, _ := heapOf(9, second, conBlock(1), funBlock(2), conBlock(3), funBlock(0), conBlock(3000))
		head := func(tags ...int) []int {
			var words []int
			for _, tag := range tags {
				words = append(words, headOf(tag == 2 || tag == 0, tag, 0))
			}
			return words
		}
		for _, c := range []struct{ roots, tags, now []int }{
			{[]int{0}, []int{1}, []int{0}},
			{[]int{4}, []int{3000}, []int{0}},
			{[]int{0, 1, 2, 3, 4}, []int{1, 2, 3, 0, 3000}, []int{0, 1, 2, 3, 4}},
			{[]int{4, 3, 2, 1, 0}, []int{3000, 0, 3, 2, 1}, []int{0, 1, 2, 3, 4}},
			{[]int{2, 0, 4}, []int{3, 1, 3000}, []int{0, 1, 2}},
			{[]int{2, 2, 2}, []int{3}, []int{0, 0, 0}},
			{[]int{3, 1, 3, 0, 1, 3}, []int{0, 2, 1}, []int{0, 1, 0, 2, 1, 0}},
		} {
			wantCollect(t, h, refsOf(from, c.roots...), zeroHeap(9, !second, head(c.tags...)...), refsOf(to, c.now...))
		}
	})
}

// Roots come first, then kids of the first of them, then of the second one; then what is further down.
func TestCollectOrder(t *testing.T) {
	movedBoth(40, func(second bool, from int) {
		to := 40 - from
		h, _ := heapOf(40, second,
			conBlock(10),                        // at 0
			conBlock(11, refOf(from)),           // at 1
			conBlock(12, refsOf(from, 1, 9)...), // at 3
			conBlock(13, refsOf(from, 3, 6)...), // at 6
			conBlock(14, refOf(from+6)),         // at 9
			conBlock(15, refsOf(from, 9, 0)...), // at 11
		)
		for _, c := range []struct{ roots, tags []int }{
			{[]int{0}, []int{10}},
			{[]int{1}, []int{11, 10}},
			{[]int{3}, []int{12, 11, 14, 10, 13}},
			{[]int{6}, []int{13, 12, 11, 14, 10}},
			{[]int{9}, []int{14, 13, 12, 11, 10}},
			{[]int{11}, []int{15, 14, 10, 13, 12, 11}},
			{[]int{11, 1}, []int{15, 11, 14, 10, 13, 12}},
			{[]int{1, 11}, []int{11, 15, 10, 14, 13, 12}},
			{[]int{0, 11}, []int{10, 15, 14, 13, 12, 11}},
			{[]int{11, 0}, []int{15, 10, 14, 13, 12, 11}},
			{[]int{3, 6}, []int{12, 13, 11, 14, 10}},
			{[]int{9, 3}, []int{14, 12, 13, 11, 10}},
			{[]int{0, 1, 3, 6, 9, 11}, []int{10, 11, 12, 13, 14, 15}},
			{[]int{11, 9, 6, 3, 1, 0}, []int{15, 14, 13, 12, 11, 10}},
		} {
			m, now := impl.Collect(h, refsOf(from, c.roots...))
			var tags []int
			for p := m.Base; p < m.Next; {
				_, tag, kids, _ := impl.BlockAt(m, p)
				tags, p = append(tags, tag), p+1+len(kids)
			}
			if !slices.Equal(tags, c.tags) || m.Base != to {
				t.Errorf("of roots %v tags come as %v, not %v", c.roots, tags, c.tags)
			}
			for i, w := range now {
				_, tag, _, _ := impl.BlockAt(h, from+c.roots[i])
				if _, got, _, ok := impl.BlockAt(m, w/2); !ok || got != tag {
					t.Errorf("of roots %v that of tag %d is now %d", c.roots, tag, got)
				}
			}
			holdMove(t, h, refsOf(from, c.roots...))
		}
	})
}

// A block that is met many times, by roots and by kids, is moved once, and is one still.
func TestCollectOfWhatIsMetTwice(t *testing.T) {
	movedBoth(60, func(second bool, from int) {
		to := 60 - from
		for many := 1; many <= keptMost; many++ {
			h, _ := heapOf(60, second, conBlock(5, intOf(8)), funBlock(6, slices.Repeat(refsOf(from, 0), many)...))
			want := slices.Concat(funBlock(6, slices.Repeat(refsOf(to, 1+many), many)...).words(), conBlock(5, intOf(8)).words())
			wantCollect(t, h, refsOf(from, 2), zeroHeap(60, !second, want...), refsOf(to, 0))
			wantCollect(t, h, refsOf(from, 2, 0, 2, 0), zeroHeap(60, !second, want...), refsOf(to, 0, 1+many, 0, 1+many))
			want = slices.Concat(conBlock(5, intOf(8)).words(), funBlock(6, slices.Repeat(refsOf(to, 0), many)...).words())
			wantCollect(t, h, refsOf(from, 0, 0, 2), zeroHeap(60, !second, want...), refsOf(to, 0, 0, 2))
		}
		// Two that look alike are two.
		h, _ := heapOf(60, second, conBlock(5, intOf(8)), conBlock(5, intOf(8)), funBlock(1, refsOf(from, 2, 0, 2)...))
		want := slices.Concat(funBlock(1, refsOf(to, 4, 6, 4)...).words(), conBlock(5, intOf(8)).words(), conBlock(5, intOf(8)).words())
		wantCollect(t, h, refsOf(from, 4), zeroHeap(60, !second, want...), refsOf(to, 0))
	})
}

func TestCollectOfRings(t *testing.T) {
	movedBoth(12, func(second bool, from int) {
		to := 12 - from
		itself, _ := heapOf(12, second, conBlock(0), funBlock(1, refOf(from+1)))
		wantCollect(t, itself, refsOf(from, 1), zeroHeap(12, !second, funBlock(1, refOf(to)).words()...), refsOf(to, 0))
		twice, _ := heapOf(12, second, conBlock(0), conBlock(1, refOf(from+1), intOf(5), refOf(from+1)))
		wantCollect(t, twice, refsOf(from, 1, 1), zeroHeap(12, !second, conBlock(1, refOf(to), intOf(5), refOf(to)).words()...), refsOf(to, 0, 0))
		two, _ := heapOf(12, second, conBlock(2, refOf(from+3)), conBlock(9), funBlock(3, refOf(from), intOf(4)))
		want := slices.Concat(conBlock(2, refOf(to+2)).words(), funBlock(3, refOf(to), intOf(4)).words())
		wantCollect(t, two, refsOf(from, 0), zeroHeap(12, !second, want...), refsOf(to, 0))
		want = slices.Concat(funBlock(3, refOf(to+3), intOf(4)).words(), conBlock(2, refOf(to)).words())
		wantCollect(t, two, refsOf(from, 3), zeroHeap(12, !second, want...), refsOf(to, 0))
		wantCollect(t, two, refsOf(from, 3, 0), zeroHeap(12, !second, want...), refsOf(to, 0, 3))
	})
	movedBoth(40, func(second bool, from int) {
		for long := 1; long <= 13; long++ {
			for step := range long {
				for first := range long {
					holdMove(t, ringOf(second, from, long, step), []int{intOf(2), refOf(from + 3*first), refOf(from)})
				}
			}
		}
	})
}

// Ints stay as they are, also where they look as words of places or as headers.
func TestCollectOfInts(t *testing.T) {
	ints := []int{intOf(0), intOf(1), intOf(-1), intOf(12), intOf(24), intOf(greatest), intOf(least), headOf(false, 3, 1), headOf(true, 3000, 20)}
	movedBoth(24, func(second bool, from int) {
		h, _ := heapOf(24, second, conBlock(0), funBlock(3000, ints...))
		now := append(refsOf(24-from, 0), ints...)
		wantCollect(t, h, append(refsOf(from, 1), ints...), zeroHeap(24, !second, funBlock(3000, ints...).words()...), now)
	})
}

// Headers stay as they are: each tag and number of kids that there may be, of functions and of others.
func TestCollectOfHeaders(t *testing.T) {
	movedBoth(30, func(second bool, from int) {
		for _, tag := range []int{0, 1, 59, 60, 63, 64, 2999, 3000} {
			for kids := range keptMost + 1 {
				for _, fun := range []bool{false, true} {
					b := aBlock{fun, tag, slices.Repeat(refsOf(from, 1), kids)}
					h, _ := heapOf(30, second, conBlock(8), b)
					b.kids = slices.Repeat(refsOf(30-from, 0), kids)
					wantCollect(t, h, refsOf(from, 1), zeroHeap(30, !second, b.words()...), refsOf(30-from, 0))
				}
			}
		}
	})
}

// Whatever stands where nothing is in use is 0 then, as is the half that was in use.
func TestCollectLeavesNothing(t *testing.T) {
	for _, other := range append(edgeNumbers(), headOf(false, 1, 0), refOf(0), refOf(24)) {
		movedBoth(24, func(second bool, from int) {
			h := someBlocks(second, from)
			fillElsewhere(h, other)
			for _, c := range []struct {
				roots []int
				held  int
			}{{nil, 0}, {refsOf(from, 5), 1}, {refsOf(from, 6), 7}, {refsOf(from, 0, 2, 5, 6, 8, 12), 15}} {
				m, _ := impl.Collect(h, c.roots)
				if m.Base != 24-from || m.Next != m.Base+c.held {
					t.Fatalf("behind Collect(%s) it is %s", toldAsked(h, c.roots), toldHeap(m))
				}
				for at, w := range m.Words {
					if (at < m.Base || at >= m.Next) && w != 0 {
						t.Fatalf("with %d elsewhere, behind Collect(%s) the word at %d is %d", other, toldAsked(h, c.roots), at, w)
					}
				}
			}
			holdMove(t, h, refsOf(from, 12, 8))
		})
	}
}

// A half that is full to its last word is moved as a whole; so is one word.
func TestCollectOfFullHalves(t *testing.T) {
	movedBoth(1, func(second bool, from int) {
		h := heapAt(1, second, headOf(false, 4, 0))
		wantCollect(t, h, refsOf(from, 0, 0), zeroHeap(1, !second, headOf(false, 4, 0)), refsOf(1-from, 0, 0))
		wantCollect(t, h, []int{intOf(0)}, zeroHeap(1, !second), []int{intOf(0)})
	})
	movedBoth(15, func(second bool, from int) {
		h, _ := heapOf(15, second, conBlock(3, intOf(7)), funBlock(1, refsOf(from, 0, 0)...), conBlock(0), conBlock(4, refOf(from+8)), funBlock(5, refOf(from+6), intOf(-2), refOf(from+5)), conBlock(2, refOf(from+12), refOf(from+2)))
		if impl.Room(h) != 0 {
			t.Fatalf("room is %d", impl.Room(h))
		}
		for _, roots := range [][]int{refsOf(from, 12, 6), refsOf(from, 6, 12), refsOf(from, 0, 2, 5, 6, 8, 12), refsOf(from, 12, 8, 6, 5, 2, 0)} {
			m, _ := impl.Collect(h, roots)
			if impl.Room(m) != 0 || impl.Room(h) != 0 {
				t.Errorf("behind Collect(%s) room is %d", toldAsked(h, roots), impl.Room(m))
			}
			holdMove(t, h, roots)
		}
		m, _ := impl.Collect(h, refsOf(from, 6))
		if impl.Room(m) != 15-7 {
			t.Errorf("room is %d", impl.Room(m))
		}
	})
}

// The greatest heaps: as many blocks as there may be, each a root; a chain, forwards and backwards; a tree; blocks with as many kids as there may be.
func TestCollectOfGreatHeaps(t *testing.T) {
	movedBoth(halfMost, func(second bool, from int) {
		to := halfMost - from
		full := heapAt(halfMost, second, slices.Repeat([]int{headOf(true, 3000, 0)}, halfMost)...)
		var roots, now []int
		for i := range halfMost {
			roots, now = append(roots, refOf(from+halfMost-1-i)), append(now, refOf(to+i))
		}
		m, got := impl.Collect(full, roots)
		if want := zeroHeap(halfMost, !second, full.Words[full.Base:full.Next]...); !sameHeap(m, want) || !slices.Equal(got, now) || len(impl.Reach(full, roots)) != halfMost {
			t.Errorf("%d blocks without kids are moved otherwise", halfMost)
		}
		for _, chain := range []struct{ first, step int }{{0, 2}, {halfMost - 2, -2}} {
			holdChain(t, second, from, chain.first, chain.step)
		}
		holdTree(t, second, from)
	})
}

// holdChain moves a chain that takes the whole half; the last block has no other, but itself.
func holdChain(t *testing.T, second bool, from, first, step int) {
	t.Helper()
	to := halfMost - from
	h := heapAt(halfMost, second, make([]int, halfMost)...)
	want := zeroHeap(halfMost, !second, make([]int, halfMost)...)
	for i := range halfMost / 2 {
		at, next := first+i*step, first+(i+1)*step
		nextNow := 2*i + 2
		if i == halfMost/2-1 {
			next, nextNow = at, 2*i
		}
		copy(h.Words[from+at:], conBlock(i, refOf(from+next)).words())
		copy(want.Words[to+2*i:], conBlock(i, refOf(to+nextNow)).words())
	}
	m, now := impl.Collect(h, refsOf(from, first))
	if !sameHeap(m, want) || !slices.Equal(now, refsOf(to, 0)) {
		t.Errorf("a chain from %d by %d is moved otherwise", first, step)
	}
	if back, again := impl.Collect(m, now); !slices.Equal(again, refsOf(from, 0)) || impl.Shape(back, again) != impl.Shape(h, refsOf(from, first)) {
		t.Errorf("a chain from %d by %d is seen otherwise when it is moved twice", first, step)
	}
	if got := impl.Reach(h, refsOf(from, first)); len(got) != halfMost/2 || got[0] != from || !slices.IsSorted(got) {
		t.Errorf("of a chain from %d by %d %d blocks are come to", first, step, len(got))
	}
}

// holdTree moves a tree each of whose blocks has as many kids as there may be, the last ones none; it stands leaf by leaf, the root last.
func holdTree(t *testing.T, second bool, from int) {
	t.Helper()
	var list []aBlock
	leaves := 20 * 20
	for i := range leaves {
		list = append(list, conBlock(i))
	}
	var rootKids []int
	at := leaves
	for i := range 20 {
		var kids []int
		for k := range 20 {
			kids = append(kids, refOf(from+20*i+k))
		}
		rootKids = append(rootKids, refOf(from+at))
		list, at = append(list, funBlock(1000+i, kids...)), at+21
	}
	h, places := heapOf(halfMost, second, append(list, funBlock(3000, rootKids...))...)
	holdMove(t, h, []int{refOf(places[len(places)-1])})
	m, now := impl.Collect(h, []int{refOf(places[len(places)-1])})
	if m.Next-m.Base != leaves+21*21 || !slices.Equal(now, []int{refOf(m.Base)}) {
		t.Errorf("a tree is moved to %d words at %v", m.Next-m.Base, now)
	}
	for i := range leaves {
		if _, tag, _, ok := impl.BlockAt(m, m.Base+21*21+i); !ok || tag != i {
			t.Fatalf("leaf %d is of tag %d", i, tag)
		}
	}
}
