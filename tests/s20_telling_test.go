package tests

import (
	"maps"
	"math"
	"slices"
	"testing"

	"loop.example/g00323/impl"
)

// aKnown is the value of a block that became known, and how many values are in it.
type aKnown struct {
	value impl.Value
	size  int
}

// knownBy is the second telling of Back, of all blocks at once. Nothing is gone down: in each round those blocks become known whose kids all are, so that what is within itself, or within too many, never is.
func knownBy(list []impl.Data, blocks map[int]aBlock) map[int]aKnown {
	known := map[int]aKnown{}
	for round := 1; round <= tyMost; round++ {
		now := map[int]aKnown{}
		for p, b := range blocks {
			if _, is := known[p]; is {
				continue
			}
			if k, is := knownBlock(list, known, b, round); is {
				now[p] = k
			}
		}
		if round > 1 && len(now) == 0 {
			break
		}
		maps.Copy(known, now)
	}
	return known
}

// knownBlock is of a block whose kids became known in earlier rounds; ints do in the first one.
func knownBlock(list []impl.Data, known map[int]aKnown, b aBlock, round int) (aKnown, bool) {
	if b.fun {
		return aKnown{funValue(), 1}, true
	}
	c, is := conOfTag(list, b.tag)
	if !is || len(c.Args) != len(b.kids) {
		return aKnown{}, false
	}
	k := aKnown{conValue(c.Name), 1}
	for _, w := range b.kids {
		kid, is := aKnown{intValue(halfDown(w)), 1}, round > 1
		if w%2 == 0 {
			kid, is = known[w/2]
		}
		if !is {
			return aKnown{}, false
		}
		k.value.Kids = append(k.value.Kids, kid.value)
		k.size += kid.size
	}
	return k, k.size <= valueMost
}

// conOfTag goes on from data to data, less by as many cons as are ahead.
func conOfTag(list []impl.Data, tag int) (impl.Con, bool) {
	for _, d := range list {
		if tag < len(d.Cons) {
			return d.Cons[tag], true
		}
		tag -= len(d.Cons)
	}
	return impl.Con{}, false
}

// backBy tells what each word stands for.
func backBy(list []impl.Data, h impl.Heap) func(w int) (impl.Value, bool) {
	blocks, is := blocksBy(h)
	if !is {
		return func(int) (impl.Value, bool) { return impl.Value{}, false }
	}
	known := knownBy(list, blocks)
	return func(w int) (impl.Value, bool) {
		if w%2 != 0 {
			return intValue(halfDown(w)), true
		}
		k, is := known[w/2]
		return k.value, is
	}
}

func sameValue(a, b impl.Value) bool {
	return a.Kind == b.Kind && a.N == b.N && a.S == b.S && slices.EqualFunc(a.Kids, b.Kids, sameValue)
}

// insideOf is how many values are in a value, and how many of them are within each other.
func insideOf(v impl.Value) (many, deep int) {
	for _, kid := range v.Kids {
		m, d := insideOf(kid)
		many, deep = many+m, max(deep, d)
	}
	return many + 1, deep + 1
}

// holdBack holds Back of some words against its second telling, and the promise: what comes out is right, moved or not. It tells how many come out.
func holdBack(t *testing.T, list []impl.Data, h impl.Heap, words ...int) int {
	t.Helper()
	ask := backBy(list, h)
	out := 0
	for _, w := range words {
		want, is := ask(w)
		got, ok := impl.Back(list, h, w)
		if ok != is || !sameValue(got, want) {
			t.Fatalf("Back of %d in %s is %.300s and %v, not %.300s and %v", w, toldHeap(h), toldValue(got), ok, toldValue(want), is)
		}
		if ok {
			out++
			holdComesOut(t, list, w, got)
		}
		holdBackMoved(t, list, h, w, got, ok)
	}
	return out
}

func holdComesOut(t *testing.T, list []impl.Data, w int, v impl.Value) {
	t.Helper()
	if many, deep := insideOf(v); many > valueMost || deep > tyMost {
		t.Fatalf("Back of %d has %d values, %d within each other", w, many, deep)
	}
	// Of an int alone it may be that it is no word.
	if isWord := v.Kind != impl.VlInt || impl.WordOk(v.N); impl.CheckDatas(list) == impl.DtDone && impl.ValueOk(list, v) != isWord {
		t.Fatalf("Back of %d is %.300s, which is not right", w, toldValue(v))
	}
}

// holdBackMoved moves the heap twice, so that it is asked in each half.
func holdBackMoved(t *testing.T, list []impl.Data, h impl.Heap, w int, want impl.Value, is bool) {
	t.Helper()
	m, now := h, []int{w}
	for range 2 {
		m, now = impl.Collect(m, now)
		if got, ok := impl.Back(list, m, now[0]); ok != is || !sameValue(got, want) {
			t.Fatalf("Back of %d in %s, moved, is %.300s and %v, not %.300s and %v", w, toldHeap(h), toldValue(got), ok, toldValue(want), is)
		}
	}
}

// wantBack wants a text, or, where it is empty, that none comes out.
func wantBack(t *testing.T, list []impl.Data, h impl.Heap, w int, want string) {
	t.Helper()
	holdBack(t, list, h, w)
	v, ok := impl.Back(list, h, w)
	if ok != (want != "") || ok && impl.ValueText(v) != want {
		t.Errorf("Back of %d in %s is %.300s and %v, not %q", w, toldHeap(h), toldValue(v), ok, want)
	}
	if !ok && !sameValue(v, impl.Value{}) {
		t.Errorf("Back of %d in %s is false, and %.300s", w, toldHeap(h), toldValue(v))
	}
}

// wantNoneBack wants that none of these words comes out.
func wantNoneBack(t *testing.T, list []impl.Data, h impl.Heap, words ...int) {
	t.Helper()
	for _, w := range words {
		wantBack(t, list, h, w, "")
	}
}

// Tags: E 0, C 1, N 2, S 3, P 4, T 5, W 6, which has as many kids as there may be.
const backText = "data L a = E | C a (L a); data O a = N | S a | P a a; data T = T Int Int Int;"

const (
	tagE = iota
	tagC
	tagN
	tagS
	tagP
	tagT
	tagW
)

func backDatas() []impl.Data {
	wide := oneData("W", 0, oneCon("W", slices.Repeat([]impl.Ty{intTy()}, keptMost)...))
	return append(datasOf(backText), wide)
}

// evenNumbers are words that are places, right or not.
func evenNumbers() []int {
	list := []int{math.MinInt, math.MaxInt - 1, 1 << 40, -1 << 40, 2 * halfMost, 4 * halfMost, -2, -4}
	for _, n := range edgeNumbers() {
		list = append(list, n&^1)
	}
	return list
}

func TestTagsOfBackDatas(t *testing.T) {
	list := backDatas()
	for name, tag := range map[string]int{"E": tagE, "C": tagC, "N": tagN, "S": tagS, "P": tagP, "T": tagT, "W": tagW} {
		if impl.ConTag(list, name) != tag {
			t.Errorf("the tag of %s is %d", name, impl.ConTag(list, name))
		}
	}
	if impl.CheckDatas(list) != impl.DtDone {
		t.Error("datas are not right")
	}
}
