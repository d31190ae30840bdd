package tests

import (
	"math"
	"slices"
	"testing"

	"loop.example/g00323/impl"
)

// fiveFuns keep none, two, none, as many as there may be, and one; each has four places.
func fiveFuns() []impl.Fun {
	var list []impl.Fun
	for _, free := range []int{0, 2, 0, 20, 1} {
		list = append(list, aFunction(free, oneOp(), oneOp(), oneOp(), retOp()))
	}
	return list
}

// wantOpOk holds an op at each place but the last one of that function.
func wantOpOk(t *testing.T, number int, o impl.Op, want bool) {
	t.Helper()
	for at := range 3 {
		list := fiveFuns()
		list[number].List[at] = o
		wantFunsOk(t, list, want)
	}
}

// around are the numbers at both ends of a span, by which it is met exactly and passed by one, and some more.
func around(s span) []int {
	return []int{math.MinInt, least, s.from - 1, s.from, (s.from + s.to) / 2, s.to, s.to + 1, -1, 0, 1, greatest, math.MaxInt}
}

// opSpans are what N and M may be, of each Code, in a function of four places that keeps two, which is none of the first.
type opSpans struct {
	code int
	n, m span
}

func eachOpSpans() []opSpans {
	all := []opSpans{
		{impl.BcNum, span{-1073741824, 1073741823}, span{}},
		{impl.BcLocal, span{0, 2999}, span{}},
		{impl.BcFree, span{0, 1}, span{}},
		{impl.BcCon, span{0, 59}, span{0, 20}},
		{impl.BcField, span{0, 59}, span{}},
		{impl.BcIsCon, span{0, 59}, span{0, 3}},
		{impl.BcIsNum, span{-1073741824, 1073741823}, span{0, 3}},
		{impl.BcZero, span{0, 3}, span{}},
		{impl.BcJump, span{0, 3}, span{}},
	}
	for _, code := range []int{impl.BcSelf, impl.BcCall, impl.BcRet, impl.BcAdd, impl.BcSub, impl.BcMul, impl.BcLess, impl.BcSame, impl.BcPut, impl.BcSlide, impl.BcFail} {
		all = append(all, opSpans{code, span{}, span{}})
	}
	return all
}

// What a Code does not name is 0: its span is that alone.
func TestFunsOkOfEachCode(t *testing.T) {
	for _, s := range eachOpSpans() {
		for _, n := range around(s.n) {
			for _, m := range around(s.m) {
				wantOpOk(t, 1, anOp(s.code, n, m), s.n.has(n) && s.m.has(m))
			}
		}
	}
	for _, s := range eachOpSpans() {
		switch s.code {
		case impl.BcSelf, impl.BcFree:
			continue
		}
		// All others may stand in any function.
		for number := range 5 {
			for _, n := range []int{s.n.from - 1, s.n.from, s.n.to, s.n.to + 1} {
				for _, m := range []int{s.m.from - 1, s.m.from, s.m.to, s.m.to + 1} {
					wantOpOk(t, number, anOp(s.code, n, m), s.n.has(n) && s.m.has(m))
				}
			}
		}
	}
}

func TestFunsOkOfNoCode(t *testing.T) {
	for _, code := range []int{0, 22, 23, -1, -2, -21, 42, 100, 255, 256, 257, 263, 1 << 32, 1<<32 + 1, math.MaxInt, math.MinInt} {
		for _, n := range []int{0, 1, -1, 3} {
			wantOpOk(t, 1, anOp(code, n, 0), false)
			wantOpOk(t, 0, anOp(code, 0, n), false)
		}
		wantFunsOk(t, []impl.Fun{aFunction(0, anOp(code, 0, 0))}, false)
		wantFunsOk(t, []impl.Fun{aFunction(0, anOp(code, 0, 0), retOp())}, false)
	}
	wantFunsOk(t, []impl.Fun{{List: make([]impl.Op, 4)}}, false)
}

func TestFunsOkOfFrees(t *testing.T) {
	for number, f := range fiveFuns() {
		for n := -2; n <= 22; n++ {
			wantOpOk(t, number, anOp(impl.BcFree, n, 0), 0 <= n && n < f.Free)
			wantOpOk(t, number, anOp(impl.BcFree, n, 1), false)
		}
	}
	for free := range 21 {
		for n := -1; n <= 21; n++ {
			wantFunsOk(t, []impl.Fun{aFunction(0, retOp()), aFunction(free, anOp(impl.BcFree, n, 0), retOp())}, 0 <= n && n < free)
		}
	}
}

func TestFunsOkOfTheFunctionItself(t *testing.T) {
	for number := range 5 {
		wantOpOk(t, number, anOp(impl.BcSelf, 0, 0), number > 0)
		wantOpOk(t, number, anOp(impl.BcSelf, 1, 0), false)
		wantOpOk(t, number, anOp(impl.BcSelf, 0, 1), false)
		wantOpOk(t, number, anOp(impl.BcSelf, -1, 0), false)
		wantOpOk(t, number, anOp(impl.BcSelf, number, 0), false)
	}
	wantFunsOk(t, []impl.Fun{aFunction(0, anOp(impl.BcSelf, 0, 0), retOp())}, false)
	wantFunsOk(t, []impl.Fun{aFunction(0, retOp()), aFunction(0, anOp(impl.BcSelf, 0, 0), retOp())}, true)
}

// A closure is of any function but the first one, also of the one in which it is made, and keeps as many as that has Free.
func TestFunsOkOfClosures(t *testing.T) {
	frees := []int{0, 2, 0, 20, 1}
	for number := range 5 {
		for n := -2; n < 8; n++ {
			for m := -2; m < 23; m++ {
				wantOpOk(t, number, anOp(impl.BcClos, n, m), 1 <= n && n <= 4 && m == frees[max(0, min(n, 4))])
			}
		}
		for _, far := range []int{math.MinInt, math.MaxInt, least, greatest, 59, 60, 1 << 32, 1<<32 + 1} {
			wantOpOk(t, number, anOp(impl.BcClos, far, 0), false)
			wantOpOk(t, number, anOp(impl.BcClos, 2, far), false)
			wantOpOk(t, number, anOp(impl.BcClos, far, far), false)
		}
	}
	// The first one alone: there is none of which a closure may be.
	for n := -1; n < 3; n++ {
		wantFunsOk(t, []impl.Fun{aFunction(0, anOp(impl.BcClos, n, 0), retOp())}, false)
	}
	for _, free := range []int{-1, 0, 1, 19, 20, 21, 22} {
		for _, m := range []int{free - 1, free, free + 1} {
			wantFunsOk(t, []impl.Fun{aFunction(0, anOp(impl.BcClos, 1, m), retOp()), aFunction(free, retOp())}, m == free && 0 <= free && free <= 20)
			wantFunsOk(t, []impl.Fun{aFunction(0, retOp()), aFunction(free, anOp(impl.BcClos, 1, m), retOp())}, m == free && 0 <= free && free <= 20)
		}
	}
}

// Places are those of the function itself, however many another one has.
func TestFunsOkOfPlaces(t *testing.T) {
	for _, many := range []int{1, 2, 3, 4, 7, 100, 2999, 3000} {
		places := slices.Repeat([]impl.Op{oneOp()}, many)
		places[many-1] = anOp(impl.BcFail, 0, 0)
		for number := range 5 {
			list := fiveFuns()
			list[number].List = places
			for _, to := range []int{math.MinInt, -1, 0, 1, many - 2, many - 1, many, many + 1, 3, 4, math.MaxInt} {
				is := 0 <= to && to < many
				for _, at := range []int{0, many / 2, many - 1} {
					for _, o := range []impl.Op{anOp(impl.BcJump, to, 0), anOp(impl.BcZero, to, 0), anOp(impl.BcIsCon, 1, to), anOp(impl.BcIsNum, -1, to)} {
						kept := places[at]
						places[at] = o
						wantFunsOk(t, list, is && (at < many-1 || o.Code == impl.BcJump))
						places[at] = kept
					}
				}
			}
		}
	}
}

func TestFunsOkOfTheLastPlace(t *testing.T) {
	right := []impl.Op{anOp(impl.BcNum, 1, 0), anOp(impl.BcLocal, 0, 0), anOp(impl.BcFree, 0, 0), anOp(impl.BcSelf, 0, 0), anOp(impl.BcClos, 1, 2), anOp(impl.BcCall, 0, 0), retOp(), anOp(impl.BcCon, 0, 0), anOp(impl.BcField, 0, 0), anOp(impl.BcIsCon, 0, 0), anOp(impl.BcIsNum, 0, 0), anOp(impl.BcAdd, 0, 0), anOp(impl.BcSub, 0, 0), anOp(impl.BcMul, 0, 0), anOp(impl.BcLess, 0, 0), anOp(impl.BcSame, 0, 0), anOp(impl.BcPut, 0, 0), anOp(impl.BcZero, 0, 0), anOp(impl.BcJump, 0, 0), anOp(impl.BcSlide, 0, 0), anOp(impl.BcFail, 0, 0)}
	for i, o := range right {
		if o.Code != i+1 {
			t.Fatalf("op %d is of code %d", i, o.Code)
		}
		is := o.Code == impl.BcRet || o.Code == impl.BcJump || o.Code == impl.BcFail
		wantOpOk(t, 1, o, true)
		for number := range 5 {
			list := fiveFuns()
			list[number].List[3] = o
			// These two are not right in each function at all.
			if number != 1 && (o.Code == impl.BcSelf || o.Code == impl.BcFree) {
				continue
			}
			wantFunsOk(t, list, is)
			list[number].List = []impl.Op{o}
			wantFunsOk(t, list, is)
		}
	}
	// What stands ahead of the last one may be anything that is right, and behind those three there may be more.
	list := fiveFuns()
	list[1].List = append(slices.Clone(right), retOp())
	wantFunsOk(t, list, true)
	// Their numbers are asked for there, too.
	for _, o := range []impl.Op{anOp(impl.BcRet, 1, 0), anOp(impl.BcRet, 0, 1), anOp(impl.BcRet, -1, 0), anOp(impl.BcFail, 1, 0), anOp(impl.BcFail, 0, -1), anOp(impl.BcJump, 0, 1), anOp(impl.BcJump, 4, 0), anOp(impl.BcJump, -1, 0)} {
		list := fiveFuns()
		list[2].List[3] = o
		wantFunsOk(t, list, false)
	}
}

// manyFuns are so many, each of which makes closures of the one behind it and of the one ahead of it.
func manyFuns(many int) []impl.Fun {
	list := make([]impl.Fun, many)
	for i := range list {
		list[i].List = []impl.Op{oneOp(), retOp()}
		if many > 1 {
			list[i].List = []impl.Op{anOp(impl.BcClos, min(i+1, many-1), 0), anOp(impl.BcClos, max(i-1, 1), 0), retOp()}
		}
	}
	return list
}

func TestFunsOkOfManyFunctions(t *testing.T) {
	wantFunsOk(t, nil, false)
	wantFunsOk(t, []impl.Fun{}, false)
	wantFunsOk(t, []impl.Fun{{}}, false)
	for _, many := range []int{1, 2, 3, 58, 59, 60, 61, 62, 100, 1000} {
		list := manyFuns(many)
		wantFunsOk(t, list, many <= blocksMost)
		// The last one, and none behind it.
		for n := many - 2; n <= many+1; n++ {
			list[0].List[0] = anOp(impl.BcClos, n, 0)
			wantFunsOk(t, list, many <= blocksMost && 1 <= n && n < many)
		}
		list[0].List[0] = oneOp()
		// One that is wrong, wherever it is, is wrong by itself.
		for _, i := range []int{0, many / 2, many - 1} {
			kept := list[i]
			for _, wrong := range []impl.Fun{{}, aFunction(0), aFunction(0, oneOp()), aFunction(21, retOp()), aFunction(-1, retOp()), aFunction(0, anOp(22, 0, 0), retOp()), aFunction(0, anOp(impl.BcNum, greatest+1, 0), retOp())} {
				list[i] = wrong
				wantFunsOk(t, list, false)
			}
			list[i] = kept
		}
		wantFunsOk(t, list, many <= blocksMost)
	}
}

func TestFunsOkOfHowManyAreKept(t *testing.T) {
	for _, free := range []int{math.MinInt, least, -2, -1, 0, 1, 2, 19, 20, 21, 22, 59, 60, greatest, math.MaxInt} {
		is := 0 <= free && free <= 20
		wantFunsOk(t, []impl.Fun{aFunction(free, retOp())}, free == 0)
		wantFunsOk(t, []impl.Fun{aFunction(free, retOp()), aFunction(0, retOp())}, free == 0)
		wantFunsOk(t, []impl.Fun{aFunction(free, retOp()), aFunction(free, retOp())}, free == 0)
		wantFunsOk(t, []impl.Fun{aFunction(0, retOp()), aFunction(free, retOp())}, is)
		wantFunsOk(t, []impl.Fun{aFunction(0, retOp()), aFunction(1, retOp()), aFunction(free, retOp())}, is)
	}
}

func TestFunsOkOfManyPlaces(t *testing.T) {
	for _, many := range []int{0, 1, 2, 3, 2999, 3000, 3001, 3002, 10000} {
		places := slices.Repeat([]impl.Op{retOp()}, many)
		is := 1 <= many && many <= placesMost
		for number := range 5 {
			list := fiveFuns()
			list[number].List = places
			wantFunsOk(t, list, is)
			if is {
				// One that is wrong, wherever it is.
				for _, at := range []int{0, many / 2, many - 1} {
					list[number].List = slices.Clone(places)
					list[number].List[at].M = 1
					wantFunsOk(t, list, false)
				}
			}
		}
		// Each function has its own, and all of them may have as many.
		list := manyFuns(blocksMost)
		for i := range list {
			list[i].List = slices.Repeat([]impl.Op{retOp()}, min(max(many, 1), placesMost))
		}
		wantFunsOk(t, list, true)
		list[blocksMost-1].List = places
		wantFunsOk(t, list, is)
	}
	// A local may be greater than how many places there are.
	wantFunsOk(t, []impl.Fun{aFunction(0, anOp(impl.BcLocal, 2999, 0), retOp())}, true)
	wantFunsOk(t, []impl.Fun{aFunction(0, anOp(impl.BcLocal, 3000, 0), retOp())}, false)
}

func TestFunsOkOfGreatLists(t *testing.T) {
	const many = 3000000
	places := slices.Repeat([]impl.Op{retOp()}, many)
	funs := slices.Repeat([]impl.Fun{{List: places}}, many)
	quickly(t, "FunsOk", func() {
		for i, list := range [][]impl.Fun{funs, make([]impl.Fun, many), {{List: places}}, {aFunction(0, retOp()), {List: places}}, {{List: make([]impl.Op, many)}}} {
			if impl.FunsOk(list) {
				t.Errorf("great list %d is right", i)
			}
		}
	})
}
