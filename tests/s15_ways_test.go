package tests

import (
	"math"
	"slices"
	"strconv"
	"strings"
	"testing"

	"loop.example/g00323/impl"
)

// forkTexts are the three that lead two ways, each to a place that is still to be named.
var forkTexts = []string{"zero ", "iscon 0 ", "isnum 7 "}

// forked puts each of the forks where a text has F, with the place behind it.
func forked(text string) []string {
	var list []string
	for _, fork := range forkTexts {
		list = append(list, strings.ReplaceAll(text, "F ", fork))
	}
	return list
}

func wantForked(t *testing.T, text string, want ...int) {
	t.Helper()
	for _, one := range forked(text) {
		wantDepths(t, one, want...)
	}
}

// Both ways have one value less than there was, and each of them is gone.
func TestDepthsOfForks(t *testing.T) {
	wantForked(t, "num 1, F 2, fail", 1, 2, 1)
	wantForked(t, "num 1, F 3, fail, fail", 1, 2, 1, 1)
	wantForked(t, "num 1, num 1, F 4, ret, ret", 1, 2, 3, 2, 2)
	wantForked(t, "num 1, F 4, num 2, ret, num 3, ret", 1, 2, 1, 2, 1, 2)
	wantForked(t, "num 1, F 0, num 2, ret", 1, 2, 1, 2)
	// A fork without a value to ask for, with the argument alone.
	wantForked(t, "F 1, fail")
	wantForked(t, "num 1, F 2, F 3, fail")
	// What is wrong on one way only, whichever it is.
	wantForked(t, "num 1, F 4, num 2, ret, ret")
	wantForked(t, "num 1, F 3, ret, num 3, ret")
	wantForked(t, "num 1, F 4, num 2, ret, local 1, ret")
	wantForked(t, "num 1, F 4, local 1, ret, num 2, ret")
	wantForked(t, "num 1, F 4, num 2, ret, num 3, num 4, ret")
	wantForked(t, "num 1, F 5, num 2, num 3, ret, num 4, ret")
	wantForked(t, "num 1, F 4, num 2, ret, num 3, add, fail")
	wantForked(t, "num 1, F 4, num 2, add, num 3, ret")
}

// Ways that come together with like numbers, and with unlike ones, whichever of them is more, and whether the place is met by the one behind a fork or by the one to which it leads.
func TestDepthsOfWaysThatComeTogether(t *testing.T) {
	wantForked(t, "num 1, F 4, num 2, jump 5, num 3, ret", 1, 2, 1, 2, 1, 2)
	wantForked(t, "num 1, F 4, num 2, jump 6, num 3, put, ret", 1, 2, 1, 2, 1, 2, 2)
	wantForked(t, "num 1, F 4, num 2, jump 7, num 3, num 4, add, ret", 1, 2, 1, 2, 1, 2, 3, 2)
	// One more, and one less, on each side.
	wantForked(t, "num 1, F 5, num 2, num 2, jump 6, num 3, fail")
	wantForked(t, "num 1, F 4, num 2, jump 6, num 3, num 3, fail")
	wantForked(t, "num 1, F 3, jump 4, num 3, fail")
	wantForked(t, "num 1, F 4, num 2, jump 4, fail")
	wantForked(t, "num 1, F 3, num 2, fail")
	wantForked(t, "num 1, num 1, F 4, num 2, ret")
	wantForked(t, "num 1, num 1, F 5, num 2, add, ret", 1, 2, 3, 2, 3, 2)
	wantForked(t, "num 1, num 1, F 5, num 2, slide, ret", 1, 2, 3, 2, 3, 2)
	wantForked(t, "num 1, num 1, F 4, put, ret", 1, 2, 3, 2, 2)
	// What would do with either of them is still unlike.
	wantForked(t, "num 1, F 3, num 2, num 3, fail")
	wantForked(t, "num 1, F 3, num 2, jump 4, fail")
	wantForked(t, "num 1, F 3, num 2, jump 3")
	// They come together at a jump, at a fork, and at one place by two forks.
	wantForked(t, "num 1, F 4, num 2, jump 5, num 3, jump 6, ret", 1, 2, 1, 2, 1, 2, 2)
	wantForked(t, "num 1, F 4, num 2, jump 5, num 3, F 7, num 3, fail")
	wantForked(t, "num 1, F 4, num 2, jump 5, num 3, F 6, fail", 1, 2, 1, 2, 1, 2, 1)
	wantForked(t, "num 1, F 6, num 1, F 6, num 1, F 6, num 1, ret", 1, 2, 1, 2, 1, 2, 1, 2)
	wantForked(t, "num 1, F 7, num 1, F 7, num 1, num 1, F 7, num 1, ret")
	wantForked(t, "num 1, num 1, F 7, num 1, F 7, num 1, F 7, fail", 1, 2, 3, 2, 3, 2, 3, 2)
	wantForked(t, "num 1, num 1, F 7, F 7, num 1, num 1, F 7, fail")
}

// Loops: a place may be come to again from behind it, with as many values as it was met with.
func TestDepthsOfLoops(t *testing.T) {
	wantDepths(t, "jump 0", 1)
	wantDepths(t, "jump 1, jump 0", 1, 1)
	wantDepths(t, "num 1, jump 1", 1, 2)
	wantDepths(t, "num 1, put, jump 1", 1, 2, 2)
	wantLacking(t, "num 1, jump 0")
	wantLacking(t, "num 1, num 1, jump 1")
	wantLacking(t, "num 1, num 1, add, jump 0")
	wantDepths(t, "num 1, num 1, add, jump 1", 1, 2, 3, 2)
	wantLacking(t, "num 1, num 1, num 1, add, jump 1")
	wantLacking(t, "num 1, num 1, add, jump 2")
	wantDepths(t, "jump 3, num 1, jump 4, jump 1, ret", 1, 1, 2, 1, 2)
	wantForked(t, "num 1, F 0, jump 0", 1, 2, 1)
	wantForked(t, "num 1, num 1, F 1, ret", 1, 2, 3, 2)
	wantForked(t, "num 1, num 1, F 0, ret")
	wantForked(t, "num 1, num 1, F 2, fail")
	wantForked(t, "num 1, local 1, F 5, num 1, jump 1, ret")
	wantForked(t, "num 1, local 1, F 6, num 1, add, jump 1, ret", 1, 2, 3, 2, 3, 2, 2)
	wantForked(t, "num 1, local 1, F 6, num 1, num 1, jump 1, ret")
	wantForked(t, "num 1, local 1, F 4, jump 0, ret")
	// A place that leads to itself: a fork has one value less when it is come to again.
	wantForked(t, "num 1, F 1, fail")
	wantForked(t, "num 1, num 1, F 2, fail")
	// A loop that is only come to by a fork, and one that grows.
	wantForked(t, "num 1, F 4, num 2, ret, num 1, num 1, add, jump 5", 1, 2, 1, 2, 1, 2, 3, 2)
	wantForked(t, "num 1, F 4, num 2, ret, num 1, jump 4")
	// Loops within each other.
	wantForked(t, "num 1, local 0, F 7, local 0, F 1, put, jump 3, ret", 1, 2, 3, 2, 3, 2, 2, 2)
	wantForked(t, "num 1, local 0, F 7, local 0, F 0, put, jump 3, ret")
}

// manyWays has so many ways, forks one behind the other, that come to the last place with one value beside the argument; the one that is odd passes by the place ahead of that, by which it has two.
func manyWays(many, odd int, fork string) string {
	var text strings.Builder
	end := 4*many + 2
	for i := range many {
		text.WriteString("num 1, " + fork + strconv.Itoa(4*i+4) + ", num 2, jump " + strconv.Itoa(end+i) + ", ")
	}
	text.WriteString("num 2, jump " + strconv.Itoa(end+many) + ", ")
	for i := range many + 1 {
		to := end + many + 2
		if i == odd {
			to--
		}
		text.WriteString("jump " + strconv.Itoa(to) + ", ")
	}
	return text.String() + "num 9, fail"
}

func TestDepthsOfManyWays(t *testing.T) {
	for _, fork := range forkTexts {
		for _, many := range []int{1, 2, 5, 9} {
			list := []impl.Fun{aFunction(0, opsOf(manyWays(many, -1, fork))...)}
			depths, ok := holdDepthsOf(t, list, 0)
			if !ok || depths[len(depths)-1] != 2 || depths[len(depths)-2] != -1 {
				t.Errorf("of %d ways it is %v and %v", many, ok, depths)
			}
			for odd := range many + 1 {
				wantLacking(t, manyWays(many, odd, fork))
			}
		}
	}
}

// What stands at a place that is never met is nothing, as long as it is right there.
func TestDepthsOfPlacesThatAreNeverMet(t *testing.T) {
	for _, wrong := range []string{"add", "call", "slide", "put", "field 0", "con 0 20", "clos 22 20", "local 1", "local 2999", "ret", "zero 0", "iscon 0 1", "isnum 0 2", "jump 0", "jump 1", "jump 2", "num 1", "fail"} {
		wantDepths(t, "num 1, ret, "+wrong+", fail", 1, 2, -1, -1)
		wantDepths(t, "num 1, ret, "+wrong+", ret", 1, 2, -1, -1)
		wantDepths(t, "num 1, jump 3, "+wrong+", ret", 1, 2, -1, 2)
		wantDepths(t, "fail, "+wrong+", ret", 1, -1, -1)
		wantDepths(t, "fail, num 1, "+wrong+", jump 0", 1, -1, -1, -1)
		wantForked(t, "num 1, F 3, jump 4, jump 5, fail, fail, "+wrong+", fail", 1, 2, 1, 1, 1, 1, -1, -1)
		wantForked(t, "num 1, num 1, F 4, ret, ret, "+wrong+", jump 3", 1, 2, 3, 2, 2, -1, -1)
	}
	// There may be more there than would ever be.
	wantDepths(t, "num 1, ret, "+manyTimes(100, "num 1")+"fail", append([]int{1, 2}, slices.Repeat([]int{-1}, 101)...)...)
	// The same place, once it is met, counts.
	wantLacking(t, "num 1, jump 2, add, fail")
	wantLacking(t, "jump 1, local 1, fail")
	// A way back to what stands behind an end.
	wantDepths(t, "jump 3, num 1, ret, jump 1", 1, 1, 2, 1)
	wantLacking(t, "jump 3, add, ret, jump 1")
	wantLacking(t, "jump 3, ret, ret, jump 1")
}

// The last place leads on to no other one by itself.
func TestDepthsOfTheLastPlace(t *testing.T) {
	wantDepths(t, "fail", 1)
	wantLacking(t, "ret")
	wantDepths(t, "num 1, ret", 1, 2)
	wantDepths(t, "num 1, fail", 1, 2)
	wantDepths(t, "num 1, jump 1", 1, 2)
	wantLacking(t, "num 1, jump 0")
	wantDepths(t, "local 0, ret, ret", 1, 2, -1)
	wantDepths(t, "local 0, ret, fail", 1, 2, -1)
	wantDepths(t, "local 0, ret, jump 0", 1, 2, -1)
	wantDepths(t, "jump 2, fail, jump 1", 1, 1, 1)
	wantForked(t, "num 1, F 2, jump 0", 1, 2, 1)
	wantForked(t, "num 1, num 1, F 3, ret", 1, 2, 3, 2)
	wantForked(t, "num 1, F 2, ret")
	for _, last := range []string{"num 1", "local 0", "call", "con 0 0", "field 0", "iscon 0 0", "isnum 0 0", "add", "put", "zero 0", "slide"} {
		for _, text := range []string{last, "num 1, " + last, "num 1, num 1, " + last, "num 1, ret, " + last} {
			wantNothing(t, []impl.Fun{aFunction(0, opsOf(text)...)}, 0)
		}
	}
}

// wantNothing holds that there are no depths, and that it is not verified.
func wantNothing(t *testing.T, list []impl.Fun, i int) {
	t.Helper()
	if got, ok := impl.Depths(list, i); ok || got != nil {
		t.Errorf("Depths(%.300s, %d) is %v and %v", toldFuns(list), i, ok, got)
	}
	if len(list) > 0 && impl.Verify(list) {
		t.Errorf("Verify(%.300s) is true", toldFuns(list))
	}
}

func TestDepthsOfFunctionsThatAreNotThere(t *testing.T) {
	for many := 1; many <= blocksMost; many++ {
		list := slices.Repeat([]impl.Fun{aFunction(0, opsOf("local 0, ret")...)}, many)
		for _, i := range []int{math.MinInt, least, -many, -2, -1, many, many + 1, 60, 61, 3000, greatest, 1 << 32, 1<<63 - 1} {
			if 0 <= i && i < many {
				continue
			}
			if got, ok := impl.Depths(list, i); ok || got != nil {
				t.Errorf("of function %d of %d it is %v and %v", i, many, ok, got)
			}
		}
		for i := range many {
			if got, ok := impl.Depths(list, i); !ok || !slices.Equal(got, []int{1, 2}) {
				t.Errorf("of function %d of %d it is %v and %v", i, many, ok, got)
			}
		}
	}
	for _, i := range []int{math.MinInt, -1, 0, 1, math.MaxInt} {
		for _, list := range [][]impl.Fun{nil, {}} {
			if got, ok := impl.Depths(list, i); ok || got != nil {
				t.Errorf("of function %d of none it is %v and %v", i, ok, got)
			}
		}
	}
}

// What is not right in any function, met or not, is nothing and false of each.
func TestDepthsOfWhatIsNotRight(t *testing.T) {
	right := opsOf("local 0, ret")
	wrongs := []impl.Fun{{}, aFunction(0), aFunction(-1, right...), aFunction(21, right...), aFunction(0, right[0]), {List: make([]impl.Op, 3)}, {List: slices.Repeat([]impl.Op{anOp(impl.BcFail, 0, 0)}, 3001)}}
	for _, o := range []impl.Op{{}, anOp(22, 0, 0), anOp(-1, 0, 0), anOp(impl.BcNum, greatest+1, 0), anOp(impl.BcNum, 0, 1), anOp(impl.BcLocal, 3000, 0), anOp(impl.BcLocal, -1, 0), anOp(impl.BcFree, 0, 0), anOp(impl.BcClos, 0, 0), anOp(impl.BcClos, 60, 0), anOp(impl.BcClos, 1, 1), anOp(impl.BcCon, 60, 0), anOp(impl.BcCon, 0, 21), anOp(impl.BcCon, 0, -1), anOp(impl.BcField, 60, 0), anOp(impl.BcIsCon, 0, 4), anOp(impl.BcIsNum, 0, -1), anOp(impl.BcZero, 4, 0), anOp(impl.BcJump, 4, 0), anOp(impl.BcJump, -1, 0), anOp(impl.BcRet, 1, 0), anOp(impl.BcSlide, 0, 1), anOp(impl.BcFail, -1, 0), anOp(impl.BcAdd, 1, 1)} {
		wrongs = append(wrongs, aFunction(0, right[0], right[1], o, right[1]), aFunction(0, o, right[0], right[0], right[1]))
	}
	for _, wrong := range wrongs {
		for many := 1; many <= 4; many++ {
			for at := range many {
				list := slices.Repeat([]impl.Fun{aFunction(0, right...)}, many)
				list[at] = wrong
				for i := -1; i <= many; i++ {
					wantNothing(t, list, i)
				}
				holdDepths(t, list)
			}
		}
	}
	wantNothing(t, []impl.Fun{aFunction(1, right...)}, 0)
	wantNothing(t, []impl.Fun{aFunction(0, anOp(impl.BcSelf, 0, 0), retOp())}, 0)
	over := slices.Repeat([]impl.Fun{aFunction(0, right...)}, blocksMost+1)
	for i := range over {
		wantNothing(t, over, i)
	}
	holdDepths(t, over[:blocksMost])
}

// Another function that is right and lacks a value is nothing to the depths of this one.
func TestDepthsOfEachByItself(t *testing.T) {
	list := []impl.Fun{aFunction(0, opsOf("num 1, ret")...), aFunction(1, opsOf("add, ret")...), aFunction(0, opsOf("ret")...), aFunction(20, opsOf("free 19, put, ret")...), aFunction(0, opsOf("local 1, ret")...)}
	for i, want := range [][]int{{1, 2}, nil, nil, {1, 2, 2}, nil} {
		if got, ok := holdDepthsOf(t, list, i); ok != (want != nil) || !slices.Equal(got, want) {
			t.Errorf("of function %d it is %v and %v", i, ok, got)
		}
	}
	if holdDepths(t, list) {
		t.Error("it is verified")
	}
}

func wantVerified(t *testing.T, list []impl.Fun, want bool) {
	t.Helper()
	if got := impl.Verify(list); got != want {
		t.Errorf("Verify(%.300s) is %v", toldFuns(list), got)
	}
}

func TestVerifyOfSeveral(t *testing.T) {
	// Of none there is none that is not.
	wantVerified(t, nil, true)
	wantVerified(t, []impl.Fun{}, true)
	right, wrong := opsOf("local 0, ret"), opsOf("local 1, ret")
	wantVerified(t, []impl.Fun{aFunction(0, right...)}, true)
	wantVerified(t, []impl.Fun{aFunction(0, wrong...)}, false)
	wantVerified(t, []impl.Fun{{}}, false)
	for many := 1; many <= blocksMost+1; many++ {
		list := slices.Repeat([]impl.Fun{aFunction(0, right...)}, many)
		wantVerified(t, list, many <= blocksMost)
		for i := range list {
			for _, places := range [][]impl.Op{wrong, opsOf("ret"), opsOf("num 1, jump 0"), opsOf("num 1"), nil, {anOp(22, 0, 0), retOp()}} {
				list[i].List = places
				wantVerified(t, list, false)
			}
			list[i].List = opsOf("num 7, ret, slide, ret")
			wantVerified(t, list, many <= blocksMost)
			list[i].List = right
		}
	}
}
