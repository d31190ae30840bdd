package tests

import (
	"fmt"
	"maps"
	"slices"
	"strconv"
	"strings"
	"testing"

	"loop.example/g00323/impl"
)

// rootsBy is the second telling of what may be asked: the blocks of the heap, and whether it and all roots are right.
func rootsBy(h impl.Heap, roots []int) (map[int]aBlock, bool) {
	blocks, is := blocksBy(h)
	for _, w := range roots {
		is = is && kidBy(blocks, w)
	}
	return blocks, is
}

// refsAmong are the places among words, and where each of them stands.
func refsAmong(words []int) map[int]int {
	refs := map[int]int{}
	for i, w := range slices.Backward(words) {
		if w%2 == 0 {
			refs[w/2] = i
		}
	}
	return refs
}

// isAhead tells whether a path is the shorter one, or, of two that are as long, ahead at the first number that they have not in common.
func isAhead(a, b []int) bool {
	return len(a) < len(b) || len(a) == len(b) && slices.Compare(a, b) < 0
}

// pathsBy is, for each block that is come to, the one of all its paths that is ahead of the others: which root, then which kid, again and again. Nothing is gone through in order: paths are made better till none can be.
func pathsBy(blocks map[int]aBlock, roots []int) map[int][]int {
	paths := map[int][]int{}
	for p, i := range refsAmong(roots) {
		paths[p] = []int{i}
	}
	for changed := true; changed; {
		changed = false
		for _, p := range slices.Collect(maps.Keys(paths)) {
			for kid, i := range refsAmong(blocks[p].kids) {
				path := append(slices.Clone(paths[p]), i)
				if old, is := paths[kid]; !is || isAhead(path, old) {
					paths[kid], changed = path, true
				}
			}
		}
	}
	return paths
}

// orderBy is the order in which blocks are met, told by their paths.
func orderBy(blocks map[int]aBlock, roots []int) []int {
	paths := pathsBy(blocks, roots)
	return slices.SortedFunc(maps.Keys(paths), func(a, b int) int {
		if isAhead(paths[a], paths[b]) {
			return -1
		}
		return 1
	})
}

func reachBy(h impl.Heap, roots []int) []int {
	blocks, is := rootsBy(h, roots)
	if !is {
		return nil
	}
	return slices.Sorted(maps.Keys(pathsBy(blocks, roots)))
}

// standBy are words with other places in place of theirs.
func standBy(words []int, place map[int]int) []int {
	var list []int
	for _, w := range words {
		if w%2 == 0 {
			w = refOf(place[w/2])
		}
		list = append(list, w)
	}
	return list
}

func collectBy(h impl.Heap, roots []int) (impl.Heap, []int) {
	blocks, is := rootsBy(h, roots)
	if !is {
		return copyHeap(h), slices.Clone(roots)
	}
	order := orderBy(blocks, roots)
	next := impl.Heap{Words: make([]int, 2*h.Half), Half: h.Half, Base: h.Half - h.Base}
	next.Next = next.Base
	place := map[int]int{}
	for _, p := range order {
		place[p] = next.Next
		next.Next += len(blocks[p].words())
	}
	for _, p := range order {
		b := blocks[p]
		copy(next.Words[place[p]:], aBlock{b.fun, b.tag, standBy(b.kids, place)}.words())
	}
	return next, standBy(roots, place)
}

// lineBy is a line of a Shape: what stands ahead, then words.
func lineBy(ahead string, words, order []int) string {
	parts := []string{ahead}
	for _, w := range words {
		if w%2 == 0 {
			parts = append(parts, "@"+strconv.Itoa(slices.Index(order, w/2)))
		} else {
			parts = append(parts, strconv.Itoa((w-1)/2))
		}
	}
	return strings.Join(parts, " ") + "\n"
}

func shapeBy(h impl.Heap, roots []int) string {
	blocks, is := rootsBy(h, roots)
	if !is {
		return ""
	}
	order := orderBy(blocks, roots)
	text := lineBy("", roots, order)
	for _, p := range order {
		kind := map[bool]string{true: "fun", false: "con"}[blocks[p].fun]
		text += lineBy(fmt.Sprint(kind, " ", blocks[p].tag), blocks[p].kids, order)
	}
	return text
}

// isAlike goes down both heaps at once, from roots to kids: each block of one has one of the other, which has the same kind, tag and kids.
func isAlike(a impl.Heap, rootsA []int, b impl.Heap, rootsB []int) bool {
	there, back := map[int]int{}, map[int]int{}
	pairs := [][2][]int{{rootsA, rootsB}}
	for len(pairs) > 0 {
		one, other := pairs[0][0], pairs[0][1]
		pairs = pairs[1:]
		if len(one) != len(other) {
			return false
		}
		for i, w := range one {
			v := other[i]
			if w%2 != 0 || v%2 != 0 {
				if w != v {
					return false
				}
				continue
			}
			p, isThere := there[w/2]
			q, isBack := back[v/2]
			if isThere || isBack {
				if p != v/2 || q != w/2 || !isThere || !isBack {
					return false
				}
				continue
			}
			there[w/2], back[v/2] = v/2, w/2
			funA, tagA, kidsA, okA := impl.BlockAt(a, w/2)
			funB, tagB, kidsB, okB := impl.BlockAt(b, v/2)
			if !okA || !okB || funA != funB || tagA != tagB {
				return false
			}
			pairs = append(pairs, [2][]int{kidsA, kidsB})
		}
	}
	return true
}

func toldAsked(h impl.Heap, roots []int) string {
	return fmt.Sprintf("%s, roots %.300s", toldHeap(h), fmt.Sprint(roots))
}

// holdMove holds Reach, Collect and Shape against their second tellings, and the promise beside these.
func holdMove(t *testing.T, h impl.Heap, roots []int) bool {
	t.Helper()
	_, is := rootsBy(h, roots)
	if got, want := impl.Reach(h, roots), reachBy(h, roots); !slices.Equal(got, want) {
		t.Fatalf("Reach(%s) is %v, not %v", toldAsked(h, roots), got, want)
	}
	if got, want := impl.Shape(h, roots), shapeBy(h, roots); got != want {
		t.Fatalf("Shape(%s) is %q, not %q", toldAsked(h, roots), got, want)
	}
	m, now := impl.Collect(h, roots)
	if want, wantNow := collectBy(h, roots); !sameHeap(m, want) || !slices.Equal(now, wantNow) {
		t.Fatalf("Collect(%s) is %s, not %s", toldAsked(h, roots), toldAsked(m, now), toldAsked(want, wantNow))
	}
	if is {
		holdMoved(t, h, roots, m, now)
	} else if !sameHeap(m, h) || !slices.Equal(now, roots) {
		t.Fatalf("Collect(%s) is not right, and %s", toldAsked(h, roots), toldAsked(m, now))
	}
	return is
}

// holdMoved asks the program's other functions what they tell of a heap that was moved.
func holdMoved(t *testing.T, h impl.Heap, roots []int, m impl.Heap, now []int) {
	t.Helper()
	reached := impl.Reach(h, roots)
	held := 0
	for _, p := range reached {
		_, _, kids, _ := impl.BlockAt(h, p)
		held += 1 + len(kids)
	}
	if !impl.HeapOk(m) || impl.Room(m) != h.Half-held || m.Base != h.Half-h.Base || m.Next != m.Base+held {
		t.Fatalf("%s is moved, and %s", toldAsked(h, roots), toldAsked(m, now))
	}
	if impl.Shape(m, now) != impl.Shape(h, roots) || !isAlike(h, roots, m, now) {
		t.Fatalf("%s is moved, and seen otherwise: %s", toldAsked(h, roots), toldAsked(m, now))
	}
	if all := impl.Reach(m, now); len(all) != len(reached) {
		t.Fatalf("%s is moved, and of %d blocks %d are come to", toldAsked(h, roots), len(reached), len(all))
	}
	holdMovedOnceMore(t, m, now)
}

// holdMovedOnceMore wants a heap that was moved: moved again it is the same but for the half, and moved twice just the same.
func holdMovedOnceMore(t *testing.T, m impl.Heap, now []int) {
	t.Helper()
	again, nowAgain := impl.Collect(m, now)
	shift := again.Base - m.Base
	blocks, _ := blocksBy(m)
	place := map[int]int{}
	for p := range blocks {
		place[p] = p + shift
	}
	if again.Next != m.Next+shift || !slices.Equal(nowAgain, standBy(now, place)) {
		t.Fatalf("%s is moved once more, and %s", toldAsked(m, now), toldAsked(again, nowAgain))
	}
	for p, b := range blocks {
		if want := (aBlock{b.fun, b.tag, standBy(b.kids, place)}).words(); !slices.Equal(again.Words[p+shift:p+shift+len(want)], want) {
			t.Fatalf("%s is moved once more, and %s", toldAsked(m, now), toldAsked(again, nowAgain))
		}
	}
	if back, nowBack := impl.Collect(again, nowAgain); !sameHeap(back, m) || !slices.Equal(nowBack, now) {
		t.Fatalf("%s is moved twice, and %s", toldAsked(m, now), toldAsked(back, nowBack))
	}
}

// movedBoth calls for a heap of blocks in each half; from is the place of its first word.
func movedBoth(half int, ask func(second bool, from int)) {
	ask(false, 0)
	ask(true, half)
}

// fillElsewhere writes into all words that are not in use.
func fillElsewhere(h impl.Heap, w int) {
	for at := range h.Words {
		if at < h.Base || at >= h.Next {
			h.Words[at] = w
		}
	}
}
