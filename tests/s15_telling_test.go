package tests

import (
	"math/bits"
	"slices"
	"strconv"
	"strings"
	"testing"

	"loop.example/g00323/impl"
)

const depthMost = 60

func TestDepthNumbers(t *testing.T) {
	if impl.MaxDepth != depthMost {
		t.Errorf("MaxDepth is %d", impl.MaxDepth)
	}
}

// A second telling of chapter 15. It keeps for each place all numbers with which one may come there, and goes through all places, from the last one on, till no number is new; what is wrong is asked when that is done.

// heights are numbers from 0 to 63.
type heights uint64

func (h heights) has(n int) bool { return h>>n&1 == 1 }

func (h heights) many() int { return bits.OnesCount64(uint64(h)) }

// isLacking is of a place that does not find what it wants among so many values, or would leave too many.
func isLacking(o impl.Op, values int) bool {
	takes, puts := takesAndPuts(o)
	switch name := codeName(o.Code); {
	case name == "ret" && values != 2, name == "slide" && values < 3, name == "local" && !(span{0, values - 1}).has(o.N):
		return true
	}
	return !(span{1, depthMost}).has(values-takes) || values-takes+puts > depthMost
}

// spread puts the numbers that come from one place to those to which it leads, and tells whether one is new.
func spread(all []heights, places []impl.Op, at int) bool {
	isNew := false
	takes, puts := takesAndPuts(places[at])
	for values := range depthMost + 1 {
		if !all[at].has(values) || isLacking(places[at], values) {
			continue
		}
		for _, next := range waysOn(at, places[at]) {
			then := values - takes + puts
			isNew = isNew || !all[next].has(then)
			all[next] |= 1 << then
		}
	}
	return isNew
}

func allHeights(places []impl.Op) []heights {
	all := make([]heights, len(places))
	all[0] = 1 << 1
	for again := true; again; {
		again = false
		for back := range places {
			again = spread(all, places, len(places)-1-back) || again
		}
	}
	return all
}

func depthsBy(list []impl.Fun, i int) ([]int, bool) {
	if !funsOkBy(list) || i < 0 || i >= len(list) {
		return nil, false
	}
	places := list[i].List
	var depths []int
	for at, h := range allHeights(places) {
		depth := bits.TrailingZeros64(uint64(h))
		switch {
		case h.many() == 0:
			depth = -1
		case h.many() > 1 || isLacking(places[at], depth):
			return nil, false
		}
		depths = append(depths, depth)
	}
	return depths, true
}

// holdDepthsOf holds the depths of one function, which need not be there, against the second telling.
func holdDepthsOf(t *testing.T, list []impl.Fun, i int) ([]int, bool) {
	t.Helper()
	got, ok := impl.Depths(list, i)
	want, wantOk := depthsBy(list, i)
	if ok != wantOk || !slices.Equal(got, want) {
		t.Fatalf("Depths(%.500s, %d) is %v and %.300v, not %v and %.300v", toldFuns(list), i, ok, got, wantOk, want)
	}
	return got, ok
}

// holdDepths holds the depths of each function, and of some that are not there; and Verify against all of them.
func holdDepths(t *testing.T, list []impl.Fun) bool {
	t.Helper()
	verified := true
	for i := -1; i <= len(list); i++ {
		_, ok := holdDepthsOf(t, list, i)
		if 0 <= i && i < len(list) {
			verified = verified && ok
		}
	}
	if got := impl.Verify(list); got != verified {
		t.Fatalf("Verify(%.500s) is %v, and of each it is %v", toldFuns(list), got, verified)
	}
	return verified
}

// opsOf reads places as placesText tells them: names, each with the numbers behind it.
func opsOf(text string) []impl.Op {
	var places []impl.Op
	for _, part := range strings.Split(text, ", ") {
		words := append(strings.Fields(part), "0", "0")
		n, wrongN := strconv.Atoi(words[1])
		m, wrongM := strconv.Atoi(words[2])
		o := anOp(codeNamed(words[0]), n, m)
		if o.Code == 0 || wrongN != nil || wrongM != nil {
			panic("no place: " + part)
		}
		places = append(places, o)
	}
	return places
}

// manyTimes is a place so many times, each with a comma behind it.
func manyTimes(many int, text string) string { return strings.Repeat(text+", ", many) }

// amongOthers has places in the function of that number, among functions of which the second one keeps two, and each one from the third on one more than the one ahead of it, up to the last one, which keeps twenty.
func amongOthers(number int, places []impl.Op) []impl.Fun {
	right := opsOf("local 0, ret")
	list := []impl.Fun{aFunction(0, right...), aFunction(2, right...)}
	for free := range keptMost + 1 {
		list = append(list, aFunction(free, right...))
	}
	list[number].List = places
	return list
}

// functionsFor are the functions in which places may stand: the first one, where it has neither frees nor itself, the second one, and the last one.
func functionsFor(places []impl.Op) []int {
	if slices.ContainsFunc(places, func(o impl.Op) bool { return o.Code == impl.BcFree || o.Code == impl.BcSelf }) {
		return []int{1, 22}
	}
	return []int{0, 1, 22}
}

// wantDepths holds places in each spot: how many values are told, and that it is verified; nothing, and that it is not, where none are wanted.
func wantDepths(t *testing.T, text string, want ...int) {
	t.Helper()
	places := opsOf(text)
	for _, number := range functionsFor(places) {
		list := amongOthers(number, places)
		if !impl.FunsOk(list) {
			t.Fatalf("function %d is not right: %.300s", number, text)
		}
		got, ok := holdDepthsOf(t, list, number)
		if ok != (len(want) > 0) || !slices.Equal(got, want) {
			t.Errorf("of %.300s in function %d it is %v and %.300v, not %.300v", text, number, ok, got, want)
		}
		if verified := impl.Verify(list); verified != ok {
			t.Errorf("%.300s in function %d is verified: %v", text, number, verified)
		}
	}
}

// wantLacking holds that it is not verified.
func wantLacking(t *testing.T, text string) {
	t.Helper()
	wantDepths(t, text)
}
