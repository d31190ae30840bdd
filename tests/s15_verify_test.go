package tests

import (
	"fmt"
	"math"
	"slices"
	"strconv"
	"testing"

	"loop.example/g00323/impl"
)

func wantEffect(t *testing.T, o impl.Op, takes, puts int) {
	t.Helper()
	if a, b := impl.Effect(o); a != takes || b != puts {
		t.Errorf("Effect(%v) is %d and %d, not %d and %d", o, a, b, takes, puts)
	}
}

// farNumbers are what N or M may be, right or not.
func farNumbers() []int {
	return []int{math.MinInt, least - 1, least, -3, -1, 0, 1, 2, 3, 7, 19, 20, 21, 59, 60, 61, 2999, 3000, greatest, greatest + 1, 1 << 40, math.MaxInt}
}

func TestEffectOfEachCode(t *testing.T) {
	effects := map[int][2]int{
		impl.BcNum: {0, 1}, impl.BcLocal: {0, 1}, impl.BcFree: {0, 1}, impl.BcSelf: {0, 1},
		impl.BcCall: {2, 1}, impl.BcRet: {1, 0}, impl.BcField: {1, 1}, impl.BcPut: {1, 1},
		impl.BcIsCon: {1, 0}, impl.BcIsNum: {1, 0}, impl.BcZero: {1, 0},
		impl.BcAdd: {2, 1}, impl.BcSub: {2, 1}, impl.BcMul: {2, 1}, impl.BcLess: {2, 1}, impl.BcSame: {2, 1}, impl.BcSlide: {2, 1},
		impl.BcJump: {0, 0}, impl.BcFail: {0, 0},
	}
	if len(effects) != 19 {
		t.Fatalf("there are %d codes", len(effects))
	}
	for _, n := range farNumbers() {
		for _, m := range farNumbers() {
			for code, both := range effects {
				wantEffect(t, anOp(code, n, m), both[0], both[1])
			}
			// Of these two M is what is taken, whatever it is.
			wantEffect(t, anOp(impl.BcClos, n, m), m, 1)
			wantEffect(t, anOp(impl.BcCon, n, m), m, 1)
			for _, code := range []int{math.MinInt, -21, -8, -5, -2, -1, 0, 22, 23, 24, 26, 29, 100, 256 + 1, 256 + 8, 1<<32 + 1, 1<<32 + 5, math.MaxInt} {
				wantEffect(t, anOp(code, n, m), 0, 0)
			}
		}
	}
	for code := -300; code <= 300; code++ {
		takes, puts := takesAndPuts(anOp(code, 1, 2))
		wantEffect(t, anOp(code, 1, 2), takes, puts)
	}
	for m := -100; m <= 100; m++ {
		wantEffect(t, anOp(impl.BcClos, 1, m), m, 1)
		wantEffect(t, anOp(impl.BcCon, 1, m), m, 1)
	}
}

// dealing is a place by name, with how many values it takes and puts.
type dealing struct {
	text        string
	takes, puts int
}

// eachDealing are places of each Code behind which the next one comes; those that lead elsewhere, too, lead to that place.
func eachDealing(to int) []dealing {
	list := []dealing{{"num 5", 0, 1}, {"local 0", 0, 1}, {"free 1", 0, 1}, {"self", 0, 1}, {"call", 2, 1}, {"field 3", 1, 1}, {"add", 2, 1}, {"sub", 2, 1}, {"mul", 2, 1}, {"less", 2, 1}, {"same", 2, 1}, {"put", 1, 1}, {"slide", 2, 1}}
	for _, text := range []string{"iscon 4 ", "isnum -7 ", "zero "} {
		list = append(list, dealing{text + strconv.Itoa(to), 1, 0})
	}
	for kept := range keptMost + 1 {
		list = append(list, dealing{fmt.Sprintf("clos %d %d", kept+2, kept), kept, 1}, dealing{fmt.Sprintf("con 9 %d", kept), kept, 1})
	}
	return list
}

// upTo are the numbers from 1 to n.
func upTo(n int) []int {
	var list []int
	for i := range n {
		list = append(list, i+1)
	}
	return list
}

// Each Code with one fewer than it takes, with just as many, with more, and with as many as there may be.
func TestDepthsOfEachCode(t *testing.T) {
	for values := range depthMost {
		for _, d := range eachDealing(values + 1) {
			text := manyTimes(values, "num 1") + d.text + ", fail"
			then := 1 + values - d.takes + d.puts
			if values < d.takes || then > depthMost {
				wantLacking(t, text)
			} else {
				wantDepths(t, text, append(upTo(values+1), then)...)
			}
		}
		// A jump takes none, and what fails neither; nothing comes behind it by itself.
		wantDepths(t, manyTimes(values, "num 1")+"jump "+strconv.Itoa(values+1)+", fail", append(upTo(values+1), values+1)...)
		wantDepths(t, manyTimes(values, "num 1")+"fail", upTo(values+1)...)
		wantDepths(t, manyTimes(values, "num 1")+"fail, fail", append(upTo(values+1), -1)...)
	}
}

// What is there may have been put by any place.
func TestDepthsBehindEachCode(t *testing.T) {
	for _, first := range eachDealing(23) {
		for _, second := range eachDealing(23) {
			ahead := max(first.takes, second.takes+first.takes-first.puts)
			text := func(values int) string {
				at := strconv.Itoa(values + 2)
				return manyTimes(values, "num 1") + namesTo(first.text, strconv.Itoa(values+1)) + ", " + namesTo(second.text, at) + ", fail"
			}
			then := 1 + ahead - first.takes + first.puts
			wantDepths(t, text(ahead), append(upTo(ahead+1), then, then-second.takes+second.puts)...)
			if ahead > 0 {
				wantLacking(t, text(ahead-1))
			}
		}
	}
}

// namesTo is a place that leads to another one where it leads anywhere.
func namesTo(text, to string) string {
	for _, name := range []string{"iscon 4 ", "isnum -7 ", "zero "} {
		if len(text) > len(name) && text[:len(name)] == name {
			return name + to
		}
	}
	return text
}

func TestDepthsOfLocals(t *testing.T) {
	for values := 1; values <= depthMost; values++ {
		ahead := manyTimes(values-1, "num 1")
		for n := range values + 3 {
			text := ahead + "local " + strconv.Itoa(n) + ", fail"
			if n < values && values < depthMost {
				wantDepths(t, text, upTo(values+1)...)
			} else {
				wantLacking(t, text)
			}
		}
		wantLacking(t, ahead+"local 2999, fail")
	}
	// Those that are gone are there no more.
	wantDepths(t, "num 1, num 1, local 2, add, slide, ret", 1, 2, 3, 4, 3, 2)
	wantLacking(t, "num 1, num 1, add, local 2, slide, ret")
	wantDepths(t, "num 1, num 1, add, local 1, slide, ret", 1, 2, 3, 2, 3, 2)
	wantLacking(t, "local 1, ret")
	wantDepths(t, "local 0, ret", 1, 2)
}

// At a ret there is the argument, and one more.
func TestDepthsOfRet(t *testing.T) {
	for values := range depthMost + 2 {
		text := manyTimes(values, "num 1") + "ret"
		if values == 1 {
			wantDepths(t, text, 1, 2)
		} else {
			wantLacking(t, text)
		}
	}
	for _, text := range []string{"num 1, num 1, add, ret", "num 1, put, ret", "num 1, num 1, slide, ret", "num 1, jump 2, ret", "con 0 0, field 0, ret"} {
		wantDepths(t, text, append(heightsAlong(text), 2)...)
	}
	wantDepths(t, "num 1, num 1, zero 3, ret, ret", 1, 2, 3, 2, -1)
	for _, text := range []string{"num 1, num 1, jump 3, ret", "jump 1, ret", "num 1, zero 2, ret"} {
		wantLacking(t, text)
	}
}

// heightsAlong are the numbers at each place but the last one, gone through without any fork.
func heightsAlong(text string) []int {
	places := opsOf(text)
	values := 1
	var list []int
	for _, o := range places[:len(places)-1] {
		list = append(list, values)
		takes, puts := takesAndPuts(o)
		values += puts - takes
	}
	return list
}

// A number is at most MaxDepth, the argument with it; only what is behind a place counts.
func TestDepthsOfManyValues(t *testing.T) {
	full := manyTimes(depthMost-1, "num 1")
	to := strconv.Itoa(depthMost)
	wantDepths(t, full+"fail", upTo(depthMost)...)
	for _, one := range []string{"num 1", "local 0", "local 58", "local 59", "free 0", "self", "clos 2 0", "con 0 0"} {
		wantLacking(t, full+one+", fail")
		// Also where the next place takes what is too much.
		for _, next := range []string{"put", "add", "slide", "con 0 20", "zero 61", "jump 61"} {
			wantLacking(t, full+one+", "+next+", fail")
		}
		// One fewer ahead of it, and it just fits.
		if one != "local 59" {
			wantDepths(t, manyTimes(depthMost-2, "num 1")+one+", fail", upTo(depthMost)...)
		}
	}
	for text, then := range map[string]int{"put": 60, "field 0": 60, "call": 59, "add": 59, "slide": 59, "zero " + to: 59, "iscon 0 " + to: 59, "isnum 0 " + to: 59, "jump " + to: 60, "con 0 1": 60, "con 0 2": 59, "con 0 20": 41, "clos 3 1": 60, "clos 4 2": 59, "clos 22 20": 41} {
		wantDepths(t, full+text+", fail", append(upTo(depthMost), then)...)
	}
	// Whichever way is too high, all is.
	wantLacking(t, "local 0, zero 3, fail, "+manyTimes(depthMost, "num 1")+"fail")
	wantLacking(t, "local 0, zero 64, fail, "+manyTimes(depthMost+1, "num 1")+"jump 3")
	wantDepths(t, "local 0, zero 3, fail, "+full+"fail", append([]int{1, 2, 1}, upTo(depthMost)...)...)
	// As many values as may be, again and again.
	whole := full + manyTimes(depthMost-2, "add") + "local 0, slide, " + manyTimes(depthMost-2, "num 1") + manyTimes(depthMost-2, "add") + "ret"
	list := []impl.Fun{aFunction(0, opsOf(whole)...)}
	if !holdDepths(t, list) {
		t.Errorf("%s is not verified", whole)
	}
	depths, _ := impl.Depths(list, 0)
	if slices.Max(depths) != depthMost || len(depths) != len(list[0].List) {
		t.Errorf("the depths are %v", depths)
	}
}

// A slide leaves the argument where it is, as all do.
func TestDepthsOfSlide(t *testing.T) {
	wantLacking(t, "slide, fail")
	wantLacking(t, "num 1, slide, fail")
	wantDepths(t, "num 1, num 1, slide, fail", 1, 2, 3, 2)
	wantDepths(t, "num 1, num 1, num 1, slide, slide, ret", 1, 2, 3, 4, 3, 2)
	wantLacking(t, "num 1, num 1, slide, slide, fail")
	wantLacking(t, "num 1, num 1, slide, slide, ret")
}
