package tests

import (
	"slices"
	"testing"

	"loop.example/g00323/impl"
)

// placesOf are places that stand so far behind the first word.
func placesOf(from int, behind ...int) []int {
	var list []int
	for _, p := range behind {
		list = append(list, from+p)
	}
	return list
}

// refsOf are words of places that stand so far behind the first word.
func refsOf(from int, behind ...int) []int {
	var list []int
	for _, p := range behind {
		list = append(list, refOf(from+p))
	}
	return list
}

func wantReach(t *testing.T, h impl.Heap, roots, want []int) {
	t.Helper()
	if got := impl.Reach(h, roots); !slices.Equal(got, want) {
		t.Errorf("Reach(%s) is %v, not %v", toldAsked(h, roots), got, want)
	}
	if !holdMove(t, h, roots) {
		t.Errorf("%s is not right", toldAsked(h, roots))
	}
}

// someBlocks stand at 0, 2, 5, 6, 8 and 12 behind the first word: a leaf; one that has it twice; one without kids; two that have each other; one that has itself, and the one at 2.
func someBlocks(second bool, from int) impl.Heap {
	h, _ := heapOf(24, second,
		conBlock(3, intOf(7)),
		funBlock(1, refsOf(from, 0, 0)...),
		conBlock(0),
		conBlock(4, refOf(from+8)),
		funBlock(5, refOf(from+6), intOf(-2), refOf(from+5)),
		conBlock(2, refOf(from+12), refOf(from+2)),
	)
	return h
}

func TestReachByHand(t *testing.T) {
	movedBoth(24, func(second bool, from int) {
		h := someBlocks(second, from)
		for _, c := range []struct{ roots, want []int }{
			{nil, nil},
			{[]int{intOf(0)}, nil},
			{[]int{intOf(5), intOf(-5), intOf(greatest), intOf(least), intOf(from)}, nil},
			{refsOf(from, 0), []int{0}},
			{refsOf(from, 5), []int{5}},
			{refsOf(from, 0, 0), []int{0}},
			{refsOf(from, 5, 5, 5, 5), []int{5}},
			{refsOf(from, 5, 0), []int{0, 5}},
			{refsOf(from, 2), []int{0, 2}},
			{refsOf(from, 0, 2), []int{0, 2}},
			{refsOf(from, 6), []int{5, 6, 8}},
			{refsOf(from, 8), []int{5, 6, 8}},
			{refsOf(from, 8, 6, 8), []int{5, 6, 8}},
			{refsOf(from, 12), []int{0, 2, 12}},
			{refsOf(from, 12, 6), []int{0, 2, 5, 6, 8, 12}},
			{refsOf(from, 0, 2, 5, 6, 8, 12), []int{0, 2, 5, 6, 8, 12}},
			{refsOf(from, 12, 8, 6, 5, 2, 0), []int{0, 2, 5, 6, 8, 12}},
			{append(refsOf(from, 5), intOf(4), intOf(-4)), []int{5}},
			{append([]int{intOf(4)}, refsOf(from, 2, 5)...), []int{0, 2, 5}},
			// An int is no place, though it is the number of one.
			{[]int{intOf(from + 12), refOf(from)}, []int{0}},
		} {
			wantReach(t, h, c.roots, placesOf(from, c.want...))
		}
	})
}

func TestReachOfAnEmptyHeap(t *testing.T) {
	for _, half := range []int{1, 2, 7, 3000} {
		for _, second := range []bool{false, true} {
			wantReach(t, emptyHeap(half, second), nil, nil)
			wantReach(t, emptyHeap(half, second), []int{intOf(3)}, nil)
			wantNoMove(t, emptyHeap(half, second), []int{0})
			wantNoMove(t, emptyHeap(half, second), []int{refOf(half)})
		}
	}
}

// A kid may stand further on or further back, at the first word and at the last one.
func TestReachToBothEnds(t *testing.T) {
	movedBoth(5, func(second bool, from int) {
		h, _ := heapOf(5, second, conBlock(0), funBlock(1, refsOf(from, 4, 0)...), conBlock(2))
		wantReach(t, h, refsOf(from, 1), placesOf(from, 0, 1, 4))
		wantReach(t, h, refsOf(from, 0), placesOf(from, 0))
		wantReach(t, h, refsOf(from, 4), placesOf(from, 4))
		wantReach(t, h, refsOf(from, 4, 0), placesOf(from, 0, 4))
	})
}

// ringOf is a ring of blocks of three words, each of which has the one that is so many further on, and another number.
func ringOf(second bool, from, long, step int) impl.Heap {
	var list []aBlock
	for i := range long {
		list = append(list, aBlock{i%2 == 0, i, []int{intOf(i), refOf(from + 3*((i+step)%long))}})
	}
	h, _ := heapOf(40, second, list...)
	return h
}

// Rings of any length, gone round by any step: from one all are come to that are a multiple of steps away.
func TestReachOfRings(t *testing.T) {
	movedBoth(40, func(second bool, from int) {
		for long := 1; long <= 13; long++ {
			for step := range long {
				h := ringOf(second, from, long, step)
				for first := range long {
					var want []int
					for i := first; !slices.Contains(want, from+3*i); i = (i + step) % long {
						want = append(want, from+3*i)
					}
					slices.Sort(want)
					wantReach(t, h, refsOf(from, 3*first), want)
					wantReach(t, h, refsOf(from, 3*first, 3*((first+step)%long)), want)
				}
			}
		}
	})
}

// What has blocks that are come to, and is come to from nowhere, is none of them.
func TestReachOfWhatLeadsThere(t *testing.T) {
	movedBoth(30, func(second bool, from int) {
		h, _ := heapOf(30, second, conBlock(1, refsOf(from, 3, 6)...), funBlock(2, refsOf(from, 0, 3)...), conBlock(0), funBlock(3, refsOf(from, 6)...))
		wantReach(t, h, refsOf(from, 6), placesOf(from, 6))
		wantReach(t, h, refsOf(from, 7), placesOf(from, 6, 7))
		wantReach(t, h, refsOf(from, 3), placesOf(from, 0, 3, 6))
		wantReach(t, h, nil, nil)
	})
}

// Each kid leads on, whichever of them it is, and however many there are.
func TestReachByEachKid(t *testing.T) {
	movedBoth(50, func(second bool, from int) {
		for kids := 1; kids <= keptMost; kids++ {
			for which := range kids {
				b := funBlock(9, slices.Repeat([]int{intOf(from)}, kids)...)
				b.kids[which] = refOf(from)
				h, _ := heapOf(50, second, conBlock(1), conBlock(2), b)
				wantReach(t, h, refsOf(from, 2), placesOf(from, 0, 2))
				b.kids[kids-1-which] = refOf(from + 1)
				h, _ = heapOf(50, second, conBlock(1), conBlock(2), b)
				want := placesOf(from, 0, 1, 2)
				if which == kids-1-which {
					want = placesOf(from, 1, 2)
				}
				wantReach(t, h, refsOf(from, 2), want)
			}
		}
	})
}

// wantNoMove holds what is told where it is not right: nothing, heap and roots as they were, and no text.
func wantNoMove(t *testing.T, h impl.Heap, roots []int) {
	t.Helper()
	if got := impl.Reach(h, roots); len(got) != 0 {
		t.Errorf("Reach(%s) is %v", toldAsked(h, roots), got)
	}
	if m, now := impl.Collect(h, roots); !sameHeap(m, h) || !slices.Equal(now, roots) {
		t.Errorf("Collect(%s) is %s", toldAsked(h, roots), toldAsked(m, now))
	}
	if got := impl.Shape(h, roots); got != "" {
		t.Errorf("Shape(%s) is %q", toldAsked(h, roots), got)
	}
	if holdMove(t, h, roots) {
		t.Errorf("%s is right", toldAsked(h, roots))
	}
}

// A root that is wrong is found wherever it stands among those that are right.
func wantNoRoot(t *testing.T, h impl.Heap, from, w int) {
	t.Helper()
	wantNoMove(t, h, []int{w})
	wantNoMove(t, h, []int{refOf(from), w})
	wantNoMove(t, h, []int{w, refOf(from)})
	wantNoMove(t, h, []int{intOf(1), refOf(from), w, refOf(from + 5), intOf(-1)})
}

func TestRootsThatAreWrong(t *testing.T) {
	movedBoth(24, func(second bool, from int) {
		h := someBlocks(second, from)
		for p := -60; p <= 100; p++ {
			if is := slices.Contains([]int{0, 2, 5, 6, 8, 12}, p-from); !is {
				wantNoRoot(t, h, from, refOf(p))
			} else {
				holdMove(t, h, []int{refOf(p)})
			}
		}
		for _, p := range []int{6000, 5998, -6000, 1 << 30, -1 << 30, 1 << 40, -1 << 40, 1<<62 - 1, -1 << 62, 1 << 61, 1<<61 + from} {
			wantNoRoot(t, h, from, refOf(p))
		}
		for _, n := range []int{greatest + 1, greatest + 2, least - 1, least - 2, circle, -circle, circle + 7, 1 << 40, -1 << 40, 1<<62 - 1, -1 << 62} {
			wantNoRoot(t, h, from, intOf(n))
		}
		for _, n := range []int{greatest, greatest - 1, least, least + 1, 0, 1, -1, -2, -3} {
			wantReach(t, h, []int{intOf(n)}, nil)
			wantReach(t, h, []int{intOf(n), refOf(from)}, placesOf(from, 0))
		}
		for _, w := range edgeNumbers() {
			is := w%2 != 0 && intOf(least) <= w && w <= intOf(greatest) || slices.Contains(refsOf(from, 0, 2, 5, 6, 8, 12), w)
			if is != holdMove(t, h, []int{w}) {
				t.Errorf("of the root %d it is right: %v", w, !is)
			}
			if !is {
				wantNoRoot(t, h, from, w)
			}
		}
	})
}

// A place within a block, one behind Next and one of the other half are none, also where what stands there looks as a block.
func TestRootsThatLookRight(t *testing.T) {
	movedBoth(12, func(second bool, from int) {
		h := heapAt(12, second, headOf(false, 1, 2), headOf(false, 0, 0), headOf(true, 2, 0), headOf(false, 5, 0))
		fillElsewhere(h, headOf(false, 0, 0))
		for p := range h.Words {
			if p == from || p == from+3 {
				wantReach(t, h, []int{refOf(p)}, []int{p})
			} else {
				wantNoRoot(t, h, from, refOf(p))
			}
		}
	})
}

// Of a heap that is not right nothing is come to, whatever the roots are.
func TestMovesOfWrongHeaps(t *testing.T) {
	for _, h := range wrongHeaps() {
		for _, roots := range [][]int{nil, {}, {0}, {1}, {intOf(5)}, {refOf(2)}, {refOf(5), refOf(0)}, {refOf(12)}, {-2}, {-1}, {refOf(1)}, {intOf(greatest + 1)}} {
			wantNoMove(t, h, roots)
		}
	}
	for _, second := range []bool{false, true} {
		for _, used := range [][]int{{headOf(false, 1, 1)}, {0}, {headOf(false, 1, 1), refOf(1)}, {headOf(false, 3001, 0)}, {headOf(true, 0, 21)}, {headOf(false, 0, 0), -1}} {
			wantNoMove(t, heapAt(30, second, used...), nil)
			wantNoMove(t, heapAt(30, second, used...), []int{intOf(1)})
		}
	}
}

// What is wrong with a block that is not come to counts too.
func TestMovesOfWrongBlocksElsewhere(t *testing.T) {
	movedBoth(24, func(second bool, from int) {
		for at := from; at < from+15; at++ {
			for _, w := range []int{refOf(from + 1), refOf(from + 15), intOf(greatest + 1), -2, intOf(-1)} {
				h := someBlocks(second, from)
				h.Words[at] = w
				_, is := rootsBy(h, refsOf(from, 0))
				if got := holdMove(t, h, refsOf(from, 0)); got != is {
					t.Errorf("%s is right: %v", toldHeap(h), got)
				}
				if !is {
					wantNoMove(t, h, nil)
				}
			}
		}
	})
}
