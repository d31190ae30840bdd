package tests

import (
	"slices"
	"strings"
	"testing"

	"loop.example/g00323/impl"
)

// wantPlaces holds what is put for a body, but for the ret at its end, in each of four blocks but the first one, which has neither frees nor itself.
func wantPlaces(t *testing.T, body impl.Ir, want string) {
	t.Helper()
	for block := 1; block < 4; block++ {
		list := fourBlocks()
		list[block] = impl.Block{Free: 2, Body: body}
		list[1].Free = 2
		funs, ok := holdGen(t, list)
		if !ok || placesText(funs[block]) != want+", ret" {
			t.Errorf("Gen of %s is %v and %s, not %s", irText(body), ok, funsText(funs), want)
		}
	}
}

func eachKindOfIr() []impl.Ir {
	one := numIr(1)
	list := []impl.Ir{one, localIr(0), freeIr(1), selfIr(), anIr(impl.IrClos, 1, one, one), anIr(impl.IrApp, 0, one, one), letIr(one, localIr(1)), anIr(impl.IrCon, 4, one, one, one), anIr(impl.IrPut, 0, one), anIr(impl.IrField, 3, one), anIr(impl.IrIf, 0, one, one, one), anIr(impl.IrIsCon, 2, one, one, one), anIr(impl.IrIsNum, 2, one, one, one), failIr()}
	for op := impl.IrAdd; op <= impl.IrSame; op++ {
		list = append(list, anIr(op, 0, one, one))
	}
	return list
}

func TestGenOfEachKind(t *testing.T) {
	a, b, c := numIr(7), numIr(8), numIr(9)
	for _, k := range []struct {
		body impl.Ir
		want string
	}{
		{a, "num 7"}, {numIr(0), "num 0"}, {numIr(least), "num -1073741824"}, {numIr(greatest), "num 1073741823"},
		{localIr(0), "local 0"}, {freeIr(0), "free 0"}, {freeIr(1), "free 1"}, {selfIr(), "self"}, {failIr(), "fail"},
		{anIr(impl.IrClos, 1, a, b), "num 7, num 8, clos 1 2"},
		{anIr(impl.IrApp, 0, a, b), "num 7, num 8, call"},
		{letIr(a, localIr(1)), "num 7, local 1, slide"}, {letIr(a, localIr(0)), "num 7, local 0, slide"}, {letIr(a, b), "num 7, num 8, slide"},
		{anIr(impl.IrAdd, 0, a, b), "num 7, num 8, add"}, {anIr(impl.IrSub, 0, a, b), "num 7, num 8, sub"}, {anIr(impl.IrMul, 0, a, b), "num 7, num 8, mul"}, {anIr(impl.IrLess, 0, a, b), "num 7, num 8, less"}, {anIr(impl.IrSame, 0, a, b), "num 7, num 8, same"},
		{anIr(impl.IrCon, 5), "con 5 0"}, {anIr(impl.IrCon, 0, a), "num 7, con 0 1"}, {anIr(impl.IrCon, 6, a, b, c), "num 7, num 8, num 9, con 6 3"},
		{anIr(impl.IrPut, 0, a), "num 7, put"}, {anIr(impl.IrField, 0, a), "num 7, field 0"}, {anIr(impl.IrField, 12, a), "num 7, field 12"},
		{anIr(impl.IrIf, 0, a, b, c), "num 7, zero 4, num 8, jump 5, num 9"},
		{anIr(impl.IrIsCon, 3, a, b, c), "num 7, iscon 3 4, num 8, jump 5, num 9"},
		{anIr(impl.IrIsNum, 3, a, b, c), "num 7, isnum 3 4, num 8, jump 5, num 9"},
		{anIr(impl.IrIsNum, greatest, a, b, c), "num 7, isnum 1073741823 4, num 8, jump 5, num 9"},
	} {
		wantPlaces(t, k.body, k.want)
	}
	// In the first block, too, all but what is kept and the function itself.
	for _, x := range eachKindOfIr() {
		list := fourBlocks()
		list[0].Body = x
		if funs, ok := holdGen(t, list); ok != (x.Op != impl.IrFree && x.Op != impl.IrSelf) || !ok && len(funs) > 0 {
			t.Errorf("in the first block %s is made: %v", irText(x), ok)
		}
	}
}

// withKid is a node of which one kid is another one.
func withKid(x impl.Ir, at int, kid impl.Ir) impl.Ir {
	made := copiedIr(x)
	made.Kids[at] = kid
	return made
}

func TestGenOfEachKindWithinEach(t *testing.T) {
	many := 0
	for _, outer := range eachKindOfIr() {
		for at := range outer.Kids {
			for _, inner := range eachKindOfIr() {
				for within := range max(1, len(inner.Kids)) {
					x := inner
					if len(inner.Kids) > 0 {
						x = withKid(inner, within, letIr(numIr(4), localIr(1)))
						if inner.Op == impl.IrLet && within == 1 {
							x = withKid(inner, within, letIr(numIr(4), localIr(2)))
						}
					}
					list := fourBlocks()
					list[1].Body = withKid(outer, at, x)
					if _, ok := holdGen(t, list); !ok {
						t.Errorf("%s is not made", irText(list[1].Body))
					}
					many++
				}
			}
		}
	}
	if many < 500 {
		t.Errorf("there are %d of them", many)
	}
	// Kids come from the left, each whole ahead of the next one.
	one, two := anIr(impl.IrAdd, 0, numIr(1), numIr(2)), anIr(impl.IrMul, 0, numIr(3), numIr(4))
	both := "num 1, num 2, add, num 3, num 4, mul"
	for op, name := range map[int]string{impl.IrApp: "call", impl.IrLet: "slide", impl.IrAdd: "add", impl.IrSub: "sub", impl.IrMul: "mul", impl.IrLess: "less", impl.IrSame: "same"} {
		wantPlaces(t, anIr(op, 0, one, two), both+", "+name)
	}
	wantPlaces(t, anIr(impl.IrCon, 1, one, two, one), both+", num 1, num 2, add, con 1 3")
	wantPlaces(t, anIr(impl.IrClos, 1, one, two), both+", clos 1 2")
	wantPlaces(t, anIr(impl.IrField, 1, anIr(impl.IrField, 2, anIr(impl.IrPut, 0, one))), "num 1, num 2, add, put, field 2, field 1")
}

// A let within each kid of all that has some: its local stands behind what is there when its first kid is begun.
func TestGenOfLocalsBehindValues(t *testing.T) {
	one := numIr(1)
	let := letIr(numIr(5), localIr(1))
	for _, k := range []struct {
		body impl.Ir
		want string
	}{
		{anIr(impl.IrAdd, 0, one, let), "num 1, num 5, local 2, slide, add"},
		{anIr(impl.IrSub, 0, let, one), "num 5, local 1, slide, num 1, sub"},
		{anIr(impl.IrMul, 0, let, let), "num 5, local 1, slide, num 5, local 2, slide, mul"},
		{anIr(impl.IrLess, 0, one, anIr(impl.IrSame, 0, one, let)), "num 1, num 1, num 5, local 3, slide, same, less"},
		{anIr(impl.IrSame, 0, anIr(impl.IrLess, 0, one, let), let), "num 1, num 5, local 2, slide, less, num 5, local 2, slide, same"},
		{anIr(impl.IrCon, 3, let, let, let), "num 5, local 1, slide, num 5, local 2, slide, num 5, local 3, slide, con 3 3"},
		{anIr(impl.IrCon, 3, one, one, one, let, one), "num 1, num 1, num 1, num 5, local 4, slide, num 1, con 3 5"},
		{anIr(impl.IrClos, 1, one, let), "num 1, num 5, local 2, slide, clos 1 2"},
		{anIr(impl.IrClos, 1, let, one), "num 5, local 1, slide, num 1, clos 1 2"},
		{anIr(impl.IrApp, 0, one, let), "num 1, num 5, local 2, slide, call"},
		{anIr(impl.IrApp, 0, let, one), "num 5, local 1, slide, num 1, call"},
		{anIr(impl.IrPut, 0, let), "num 5, local 1, slide, put"}, {anIr(impl.IrField, 2, let), "num 5, local 1, slide, field 2"},
		{letIr(let, localIr(1)), "num 5, local 1, slide, local 1, slide"},
		{letIr(one, letIr(numIr(5), anIr(impl.IrAdd, 0, localIr(1), localIr(2)))), "num 1, num 5, local 1, local 2, add, slide, slide"},
		{letIr(one, letIr(localIr(1), anIr(impl.IrAdd, 0, localIr(0), localIr(2)))), "num 1, local 1, local 0, local 2, add, slide, slide"},
		{letIr(letIr(one, letIr(localIr(1), localIr(2))), letIr(localIr(1), localIr(2))), "num 1, local 1, local 2, slide, slide, local 1, local 2, slide, slide"},
		// The second one of two lets stands behind what came between them.
		{letIr(one, anIr(impl.IrAdd, 0, localIr(1), letIr(numIr(5), anIr(impl.IrMul, 0, localIr(1), localIr(2))))), "num 1, local 1, num 5, local 1, local 3, mul, slide, add, slide"},
		{anIr(impl.IrAdd, 0, one, letIr(numIr(2), anIr(impl.IrCon, 0, one, letIr(localIr(1), anIr(impl.IrCon, 1, localIr(0), localIr(1), localIr(2)))))), "num 1, num 2, num 1, local 2, local 0, local 2, local 4, con 1 3, slide, con 0 2, slide, add"},
		{anIr(impl.IrAdd, 0, letIr(one, localIr(1)), letIr(numIr(2), letIr(numIr(3), anIr(impl.IrSub, 0, localIr(1), localIr(2))))), "num 1, local 1, slide, num 2, num 3, local 2, local 3, sub, slide, slide, add"},
		// What fails counts as a value, as every kid does.
		{anIr(impl.IrAdd, 0, failIr(), let), "fail, num 5, local 2, slide, add"},
		{letIr(failIr(), localIr(1)), "fail, local 1, slide"},
	} {
		wantPlaces(t, k.body, k.want)
	}
	// Below each kid of a fork there are as many values.
	for op, asks := range map[int]string{impl.IrIf: "zero 8", impl.IrIsCon: "iscon 0 8", impl.IrIsNum: "isnum 0 8"} {
		wantPlaces(t, anIr(op, 0, let, let, let), "num 5, local 1, slide, "+asks+", num 5, local 1, slide, jump 11, num 5, local 1, slide")
		asks = strings.Replace(asks, "8", "9", 1)
		wantPlaces(t, anIr(impl.IrApp, 0, one, anIr(op, 0, let, let, let)), "num 1, num 5, local 2, slide, "+asks+", num 5, local 2, slide, jump 12, num 5, local 2, slide, call")
		wantPlaces(t, letIr(one, anIr(op, 0, letIr(localIr(1), localIr(2)), letIr(localIr(0), localIr(2)), letIr(localIr(1), localIr(1)))), "num 1, local 1, local 2, slide, "+asks+", local 0, local 2, slide, jump 12, local 1, local 1, slide, slide")
		// Behind it there is one more.
		fork := anIr(op, 0, one, one, one)
		asks = strings.Replace(asks, "9", "4", 1)
		wantPlaces(t, anIr(impl.IrAdd, 0, fork, let), "num 1, "+asks+", num 1, jump 5, num 1, num 5, local 2, slide, add")
	}
}

func TestGenOfForksWithinForks(t *testing.T) {
	a, b, c := numIr(1), numIr(2), numIr(3)
	inner := anIr(impl.IrIf, 0, numIr(7), numIr(8), numIr(9))
	wantPlaces(t, anIr(impl.IrIf, 0, inner, b, c), "num 7, zero 4, num 8, jump 5, num 9, zero 8, num 2, jump 9, num 3")
	wantPlaces(t, anIr(impl.IrIf, 0, a, inner, c), "num 1, zero 8, num 7, zero 6, num 8, jump 7, num 9, jump 9, num 3")
	wantPlaces(t, anIr(impl.IrIf, 0, a, b, inner), "num 1, zero 4, num 2, jump 9, num 7, zero 8, num 8, jump 9, num 9")
	wantPlaces(t, anIr(impl.IrIf, 0, inner, inner, inner), "num 7, zero 4, num 8, jump 5, num 9, zero 12, num 7, zero 10, num 8, jump 11, num 9, jump 17, num 7, zero 16, num 8, jump 17, num 9")
	wantPlaces(t, anIr(impl.IrIsCon, 6, anIr(impl.IrIsNum, 7, a, b, c), inner, anIr(impl.IrIsCon, 8, a, b, c)), "num 1, isnum 7 4, num 2, jump 5, num 3, iscon 6 12, num 7, zero 10, num 8, jump 11, num 9, jump 17, num 1, iscon 8 16, num 2, jump 17, num 3")
	wantPlaces(t, anIr(impl.IrIsNum, 6, inner, anIr(impl.IrIsCon, 0, a, b, c), anIr(impl.IrIsNum, 0, a, b, c)), "num 7, zero 4, num 8, jump 5, num 9, isnum 6 12, num 1, iscon 0 10, num 2, jump 11, num 3, jump 17, num 1, isnum 0 16, num 2, jump 17, num 3")
	wantPlaces(t, anIr(impl.IrIf, 0, failIr(), failIr(), failIr()), "fail, zero 4, fail, jump 5, fail")
	wantPlaces(t, anIr(impl.IrIsCon, 1, a, failIr(), anIr(impl.IrIsNum, 2, b, failIr(), failIr())), "num 1, iscon 1 4, fail, jump 9, num 2, isnum 2 8, fail, jump 9, fail")
	// Behind what stands ahead of it, a fork leads as far on.
	wantPlaces(t, anIr(impl.IrAdd, 0, anIr(impl.IrAdd, 0, a, b), inner), "num 1, num 2, add, num 7, zero 7, num 8, jump 8, num 9, add")
	wantPlaces(t, anIr(impl.IrCon, 0, inner, inner), "num 7, zero 4, num 8, jump 5, num 9, num 7, zero 9, num 8, jump 10, num 9, con 0 2")
	wantPlaces(t, letIr(inner, anIr(impl.IrIf, 0, localIr(1), inner, localIr(1))), "num 7, zero 4, num 8, jump 5, num 9, local 1, zero 13, num 7, zero 11, num 8, jump 12, num 9, jump 14, local 1, slide")
	forks := []int{impl.IrIf, impl.IrIsCon, impl.IrIsNum}
	for _, outer := range forks {
		for _, inner := range forks {
			for _, inmost := range forks {
				for at := range 9 {
					x := withKid(anIr(inner, 0, a, b, c), at%3, anIr(inmost, 0, a, letIr(b, localIr(1)), c))
					list := fourBlocks()
					list[2].Body = withKid(anIr(outer, 0, a, letIr(b, localIr(1)), c), at/3, x)
					if _, ok := holdGen(t, list); !ok {
						t.Errorf("%s is not made", irText(list[2].Body))
					}
				}
			}
		}
	}
}

func TestGenOfSeveralBlocks(t *testing.T) {
	for src, want := range map[string]string{
		"5":                  "0: num 5, ret",
		"fun x -> x":         "0: clos 1 0, ret; 0: local 0, ret",
		"(fun x -> x) 3":     "0: clos 1 0, num 3, call, ret; 0: local 0, ret",
		"rec f x = f x in f": "0: clos 1 0, local 1, slide, ret; 0: self, local 0, call, ret",
		"let a = 4 in fun x -> fun y -> x + y * a":            "0: num 4, local 1, clos 1 1, slide, ret; 1: local 0, free 0, clos 2 2, ret; 2: free 0, local 0, free 1, mul, add, ret",
		"let a = 4 in C (fun x -> a) (C (fun y -> y) E)":      "0: num 4, local 1, clos 1 1, clos 2 0, con 2 0, con 3 2, con 3 2, slide, ret; 1: free 0, ret; 0: local 0, ret",
		"case S 1 of { N -> 2; S x -> fun y -> x }":           "",
		"1 + (case S 3 of { S x -> x; N -> 0 })":              "0: num 1, num 3, con 1 1, local 2, iscon 1 8, local 2, field 0, jump 13, local 2, iscon 0 12, num 0, jump 13, fail, slide, add, ret",
		"case 3 of { 0 -> 1; 7 -> 2; x -> x }":                "0: num 3, local 1, isnum 0 5, num 1, jump 10, local 1, isnum 7 9, num 2, jump 10, local 1, slide, ret",
		"rec f n = if n then put n + f (n - 1) else 0 in f 3": "0: clos 1 0, local 1, num 3, call, slide, ret; 0: local 0, zero 11, local 0, put, self, local 0, num 1, sub, call, add, jump 12, num 0, ret",
	} {
		blocks, ok := impl.Close(closeProg(src))
		if ok != (want != "") {
			t.Fatalf("%s is closed: %v", src, ok)
		}
		if funs, ok := holdGen(t, blocks); ok != (want != "") || funsText(funs) != want {
			t.Errorf("%s is made to\n%s, not\n%s", src, funsText(funs), want)
		}
	}
	// A block of which no closure is made is made, too, and blocks make closures of each other and of themselves.
	list := []impl.Block{{Body: numIr(1)}, {Free: 3, Body: anIr(impl.IrClos, 2, freeIr(2))}, {Free: 1, Body: anIr(impl.IrClos, 2, selfIr())}, {Free: 20, Body: anIr(impl.IrClos, 1, freeIr(19), freeIr(0), localIr(0))}}
	want := "0: num 1, ret; 3: free 2, clos 2 1, ret; 1: self, clos 2 1, ret; 20: free 19, free 0, local 0, clos 1 3, ret"
	if funs, ok := holdGen(t, list); !ok || funsText(funs) != want {
		t.Errorf("blocks are made to %s", funsText(funs))
	}
	for _, many := range []int{1, 2, 59, 60, 61, 100} {
		if funs, ok := holdGen(t, manyBlocks(many)); ok != (many <= blocksMost) || ok && len(funs) != many || !ok && len(funs) > 0 {
			t.Errorf("of %d blocks there are %d functions, and it is %v", many, len(funs), ok)
		}
	}
	// One local of one block is none of another one.
	list = slices.Repeat([]impl.Block{{Body: letsAbout(3, localIr(3))}, {Body: anIr(impl.IrAdd, 0, numIr(1), letIr(numIr(2), localIr(1)))}}, 2)
	part := "0: num 1, num 1, num 1, local 3, slide, slide, slide, ret; 0: num 1, num 2, local 2, slide, add, ret"
	if funs, ok := holdGen(t, list); !ok || funsText(funs) != part+"; "+part {
		t.Errorf("blocks are made to %s", funsText(funs))
	}
}
