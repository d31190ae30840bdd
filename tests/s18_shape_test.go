package tests

import (
	"slices"
	"strconv"
	"strings"
	"testing"

	"loop.example/g00323/impl"
)

func wantShape(t *testing.T, h impl.Heap, roots []int, want string) {
	t.Helper()
	if got := impl.Shape(h, roots); got != want {
		t.Errorf("Shape(%s) is %q, not %q", toldAsked(h, roots), got, want)
	}
	m, now := impl.Collect(h, roots)
	if got := impl.Shape(m, now); got != want {
		t.Errorf("moved, Shape(%s) is %q, not %q", toldAsked(m, now), got, want)
	}
	if !holdMove(t, h, roots) {
		t.Errorf("%s is not right", toldAsked(h, roots))
	}
}

func TestShapeByHand(t *testing.T) {
	movedBoth(24, func(second bool, from int) {
		h := someBlocks(second, from)
		for _, c := range []struct {
			roots []int
			want  string
		}{
			{nil, "\n"},
			{[]int{intOf(0)}, " 0\n"},
			{refsOf(from, 0), " @0\ncon 3 7\n"},
			{refsOf(from, 5), " @0\ncon 0\n"},
			{refsOf(from, 5, 5), " @0 @0\ncon 0\n"},
			{refsOf(from, 5, 0), " @0 @1\ncon 0\ncon 3 7\n"},
			{refsOf(from, 0, 5, 0), " @0 @1 @0\ncon 3 7\ncon 0\n"},
			{refsOf(from, 2), " @0\nfun 1 @1 @1\ncon 3 7\n"},
			{refsOf(from, 0, 2), " @0 @1\ncon 3 7\nfun 1 @0 @0\n"},
			{refsOf(from, 6), " @0\ncon 4 @1\nfun 5 @0 -2 @2\ncon 0\n"},
			{refsOf(from, 8), " @0\nfun 5 @1 -2 @2\ncon 4 @0\ncon 0\n"},
			{refsOf(from, 12), " @0\ncon 2 @0 @1\nfun 1 @2 @2\ncon 3 7\n"},
			{append([]int{intOf(-1)}, append(refsOf(from, 8, 12), intOf(12))...), " -1 @0 @1 12\nfun 5 @2 -2 @3\ncon 2 @1 @4\ncon 4 @0\ncon 0\nfun 1 @5 @5\ncon 3 7\n"},
		} {
			wantShape(t, h, c.roots, c.want)
		}
	})
}

func TestShapeOfNothing(t *testing.T) {
	for _, half := range []int{1, 5, 3000} {
		for _, second := range []bool{false, true} {
			wantShape(t, emptyHeap(half, second), nil, "\n")
			wantShape(t, emptyHeap(half, second), []int{}, "\n")
			wantShape(t, emptyHeap(half, second), []int{intOf(-3), intOf(3)}, " -3 3\n")
			wantShape(t, heapAt(half, second, headOf(false, 1, 0)), nil, "\n")
		}
	}
}

// Ints are told in digits, below 0 and at both ends, as roots and as kids.
func TestShapeOfInts(t *testing.T) {
	nums := []int{0, 1, -1, 2, -2, 9, 10, -10, 99, -100, greatest, greatest - 1, least, least + 1, 1000000, -1000000}
	movedBoth(30, func(second bool, from int) {
		for _, n := range nums {
			h, _ := heapOf(30, second, conBlock(0, intOf(n)))
			wantShape(t, h, []int{intOf(n)}, " "+strconv.Itoa(n)+"\n")
			wantShape(t, h, refsOf(from, 0), " @0\ncon 0 "+strconv.Itoa(n)+"\n")
			wantShape(t, h, []int{intOf(n), refOf(from), intOf(-1)}, " "+strconv.Itoa(n)+" @0 -1\ncon 0 "+strconv.Itoa(n)+"\n")
		}
		var words []int
		for _, n := range nums {
			words = append(words, intOf(n))
		}
		h, _ := heapOf(30, second, funBlock(7, words...))
		row := " 0 1 -1 2 -2 9 10 -10 99 -100 1073741823 1073741822 -1073741824 -1073741823 1000000 -1000000\n"
		wantShape(t, h, words, row)
		wantShape(t, h, append(refsOf(from, 0), words...), " @0"+row+"fun 7"+row)
	})
}

// Tags are told in digits, at both ends; of functions and of others; with kids and without.
func TestShapeOfHeaders(t *testing.T) {
	movedBoth(30, func(second bool, from int) {
		for _, tag := range []int{0, 1, 9, 10, 63, 64, 100, 2999, 3000} {
			for kids := range keptMost + 1 {
				row := " " + strconv.Itoa(tag) + strings.Repeat(" @0", kids) + "\n"
				h, _ := heapOf(30, second, aBlock{false, tag, slices.Repeat(refsOf(from, 0), kids)})
				wantShape(t, h, refsOf(from, 0), " @0\ncon"+row)
				h, _ = heapOf(30, second, aBlock{true, tag, slices.Repeat(refsOf(from, 0), kids)})
				wantShape(t, h, refsOf(from, 0), " @0\nfun"+row)
			}
		}
	})
}

func TestShapeOfRings(t *testing.T) {
	movedBoth(40, func(second bool, from int) {
		for long := 1; long <= 13; long++ {
			h := ringOf(second, from, long, 1%long)
			for first := range long {
				var want strings.Builder
				want.WriteString(" @0 5\n")
				for i := range long {
					at := (first + i) % long
					kind := "con "
					if at%2 == 0 {
						kind = "fun "
					}
					want.WriteString(kind + strconv.Itoa(at) + " " + strconv.Itoa(at) + " @" + strconv.Itoa((i+1)%long) + "\n")
				}
				wantShape(t, h, []int{refOf(from + 3*first), intOf(5)}, want.String())
			}
		}
	})
}

// Numbers of blocks have as many digits as they need.
func TestShapeOfManyBlocks(t *testing.T) {
	movedBoth(halfMost, func(second bool, from int) {
		h := heapAt(halfMost, second, slices.Repeat([]int{headOf(false, 7, 0)}, halfMost)...)
		var roots []int
		var row strings.Builder
		for i := range halfMost {
			roots = append(roots, refOf(from+(i*7)%halfMost))
		}
		numbers := map[int]int{}
		for _, w := range roots {
			if _, is := numbers[w]; !is {
				numbers[w] = len(numbers)
			}
			row.WriteString(" @" + strconv.Itoa(numbers[w]))
		}
		want := row.String() + "\n" + strings.Repeat("con 7\n", len(numbers))
		if got := impl.Shape(h, roots); got != want || len(numbers) != halfMost {
			t.Errorf("%d blocks are told as %.100q", len(numbers), got)
		}
	})
}

// Where blocks stand, and what else is there, is not seen.
func TestShapeIsOfWhatIsSeen(t *testing.T) {
	const want = " @0 -4\nfun 1 @1 @2\ncon 3 7\ncon 9\n"
	pair := func(from int, kids ...int) aBlock { return funBlock(1, refsOf(from, kids...)...) }
	leaf, none := conBlock(3, intOf(7)), conBlock(9)
	movedBoth(30, func(second bool, from int) {
		for _, c := range []struct {
			list []aBlock
			root int
		}{
			{[]aBlock{leaf, none, pair(from, 0, 2)}, 3},
			{[]aBlock{none, leaf, pair(from, 1, 0)}, 3},
			{[]aBlock{pair(from, 3, 5), leaf, none}, 0},
			{[]aBlock{pair(from, 4, 3), none, leaf}, 0},
			{[]aBlock{leaf, pair(from, 0, 5), none}, 2},
			{[]aBlock{none, pair(from, 4, 0), leaf}, 1},
			{[]aBlock{pair(from, 0, 0), none, none, leaf, pair(from, 5, 4), pair(from, 7, 10)}, 7},
		} {
			h, _ := heapOf(30, second, c.list...)
			wantShape(t, h, []int{refOf(from + c.root), intOf(-4)}, want)
			fillElsewhere(h, headOf(true, 1, 0))
			wantShape(t, h, []int{refOf(from + c.root), intOf(-4)}, want)
		}
	})
}

// What differs in one spot is seen otherwise.
func TestShapeTellsApart(t *testing.T) {
	movedBoth(30, func(second bool, from int) {
		seen := map[string]bool{}
		many := 0
		for _, list := range [][]aBlock{
			{conBlock(1), conBlock(1), conBlock(2, refsOf(from, 0, 1)...)},
			{conBlock(1), conBlock(1), conBlock(2, refsOf(from, 0, 0)...)},
			{conBlock(1), conBlock(1), conBlock(2, refsOf(from, 0, 2)...)},
			{conBlock(1), conBlock(1), conBlock(2, refsOf(from, 2, 0)...)},
			{conBlock(1), conBlock(1), conBlock(2, refsOf(from, 2, 2)...)},
			{conBlock(1), conBlock(1), funBlock(2, refsOf(from, 0, 1)...)},
			{conBlock(1), funBlock(1), conBlock(2, refsOf(from, 0, 1)...)},
			{funBlock(1), conBlock(1), conBlock(2, refsOf(from, 0, 1)...)},
			{conBlock(1), conBlock(3), conBlock(2, refsOf(from, 0, 1)...)},
			{conBlock(1), conBlock(1), conBlock(3, refsOf(from, 0, 1)...)},
			{conBlock(1), conBlock(1), conBlock(2, intOf(0), refOf(from+1))},
			{conBlock(1), conBlock(1), conBlock(2, refOf(from), intOf(1))},
			{conBlock(1), conBlock(1), conBlock(2, intOf(0), intOf(1))},
			{conBlock(1), conBlock(1), conBlock(2, refOf(from))},
			{conBlock(1), conBlock(1), conBlock(2)},
		} {
			h, _ := heapOf(30, second, list...)
			seen[impl.Shape(h, refsOf(from, 2))] = true
			seen[impl.Shape(h, refsOf(from, 2, 2))] = true
			many += 2
		}
		if len(seen) != many {
			t.Errorf("of %d heaps %d are told apart", many, len(seen))
		}
	})
}
