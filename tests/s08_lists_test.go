package tests

import (
	"math"
	"slices"
	"testing"

	"loop.example/g00323/impl"
)

// withLists is a node with other Insts and Vars.
func withLists(t impl.Typed, inst []impl.Ty, vars []int) impl.Typed {
	t.Inst, t.Vars = inst, vars
	return t
}

// rightInsts are lists of types that are TyOk, whatever they have to do with a node.
func rightInsts() [][]impl.Ty {
	return [][]impl.Ty{{}, {varTy(0)}, {intTy()}, {dataTy("Q", varTy(9))}, {funTy(varTy(math.MaxInt), varTy(0)), varTy(0)}, {sizedTy(tyMost), sizedTy(tyMost)}, slices.Repeat([]impl.Ty{varTy(1)}, 2*tyMost)}
}

// wrongInsts have a type that is not TyOk, alone, or ahead of others or behind them.
func wrongInsts() [][]impl.Ty {
	var list [][]impl.Ty
	for _, ty := range append(wrongTys(), sizedTy(tyMost+1)) {
		list = append(list, []impl.Ty{ty}, []impl.Ty{ty, intTy()}, []impl.Ty{intTy(), varTy(0), ty}, []impl.Ty{funTy(intTy(), ty)})
	}
	return list
}

func anyVars() [][]int {
	return [][]int{{}, {0}, {1}, {77}, {-1}, {0, 0}, {3, 1, 2, 0}, {math.MaxInt, math.MinInt}, slices.Repeat([]int{5}, 3000)}
}

func TestNumberWithAnInstOrAVar(t *testing.T) {
	one := typedNum()
	for _, inst := range rightInsts() {
		for _, vars := range anyVars() {
			if !impl.CheckTyped(nil, withLists(one, inst, vars)) {
				t.Errorf("a number with %d Insts and Vars %v is not checked", len(inst), vars)
			}
		}
	}
	for _, inst := range wrongInsts() {
		if impl.CheckTyped(nil, withLists(one, inst, nil)) {
			t.Errorf("a number with the Inst %s is checked", toldTy(inst[0]))
		}
	}
}

// Of each node in turn, and then of all at once.
func TestListsThatAreNotAsked(t *testing.T) {
	met := map[int]int{}
	for _, src := range programsOfEachKind() {
		whole := foundOf(src)
		all := typedIn(&whole)
		for _, part := range all {
			holdListsOf(t, src, &whole, part)
			met[part.Op]++
		}
		for _, part := range all {
			if !asksInst(part.Op) {
				part.Inst = rightInsts()[3]
			}
			if !asksVars(part.Op) {
				part.Vars = anyVars()[6]
			}
		}
		if wantChecked(t, whole, true); t.Failed() {
			t.Fatal(src)
		}
	}
	for op := impl.NdNum; op <= impl.PtCon; op++ {
		if met[op] == 0 {
			t.Errorf("no program has a node of kind %d", op)
		}
	}
}

// holdListsOf leaves the node, which is one of whole, as it was.
func holdListsOf(t *testing.T, src string, whole, part *impl.Typed) {
	t.Helper()
	kept := *part
	hold := func(want bool, inst []impl.Ty, vars []int) {
		t.Helper()
		*part = withLists(kept, inst, vars)
		if got := impl.CheckTyped(datasOf(someData), *whole); got != want {
			t.Fatalf("%s: with %d Insts and Vars %v a node of kind %d is checked: %v", src, len(inst), vars, kept.Op, got)
		}
		*part = kept
	}
	if !asksInst(kept.Op) {
		for _, inst := range rightInsts() {
			hold(true, inst, kept.Vars)
		}
	}
	for _, inst := range wrongInsts() {
		hold(false, inst, kept.Vars)
	}
	for _, vars := range anyVars() {
		if !asksVars(kept.Op) {
			hold(true, kept.Inst, vars)
		}
	}
	if !asksInst(kept.Op) && !asksVars(kept.Op) {
		hold(true, rightInsts()[4], anyVars()[7])
		hold(false, wrongInsts()[0], anyVars()[7])
	}
}

// How many Insts a name, a con and a rec have, and which Vars a let and a rec have, is asked.
func TestListsThatAreAsked(t *testing.T) {
	for _, src := range programsOfEachKind() {
		whole := foundOf(src)
		for _, part := range typedIn(&whole) {
			kept := *part
			for many := range len(kept.Inst) + 4 {
				if part.Inst = slices.Repeat([]impl.Ty{varTy(0)}, many); asksInst(kept.Op) && many != len(kept.Inst) {
					wantChecked(t, whole, false)
				}
			}
			*part = kept
			for _, n := range []int{-1, 1000, math.MaxInt, math.MinInt} {
				if !asksVars(kept.Op) {
					break
				}
				for _, vars := range [][]int{{n}, append(slices.Clone(kept.Vars), n), append([]int{n}, kept.Vars...)} {
					part.Vars = vars
					wantChecked(t, whole, false)
				}
			}
			if *part = kept; t.Failed() {
				t.Fatalf("%s: %s", src, shown(kept))
			}
		}
		wantChecked(t, whole, true)
	}
}

// What is not asked turns nothing: it makes no name for all, and is no type of what is bound.
func TestListsThatAreNotAskedTurnNothing(t *testing.T) {
	i, a, list := intTy(), varTy(0), dataTy("L", varTy(0))
	x := typedName("x", a)
	used := typedName("x", i, i) // as a name that is for all of var 0
	n := typedCon(impl.NdCon, "N", list)
	fun := func(kid impl.Typed) impl.Typed { return withLists(typedFun("x", a, kid), nil, []int{0}) }
	body := func(kid impl.Typed) impl.Typed {
		whole := typedCase(x, withLists(patternName("x", a), nil, []int{0}), kid)
		whole.Vars, whole.Kids[1].Vars = []int{0}, []int{0}
		return typedFun("x", a, whole)
	}
	rec := func(kid impl.Typed) impl.Typed {
		return typedRec("f", "x", a, withLists(typedFun("y", i, kid), nil, []int{0}), typedNum())
	}
	for _, about := range []func(impl.Typed) impl.Typed{fun, body, rec} {
		wantChecked(t, about(x), true)
		wantChecked(t, about(used), false)
		wantChecked(t, about(typedName("x", a, a)), false)
		wantChecked(t, about(typedLet("y", x, x, 0)), false)
	}
	// Var 0 of an Inst, or of Vars, about a let is not free in what is bound there.
	let := typedLet("n", n, typedName("n", dataTy("L", i), i), 0)
	both := withLists(typedNum(), []impl.Ty{a}, []int{0})
	for _, typed := range []impl.Typed{let, withLists(typedLet("m", both, let), []impl.Ty{a}, nil), withLists(typedFun("q", i, let), []impl.Ty{a}, []int{0}), withLists(typedApp(typedFun("q", i, let), both), []impl.Ty{a}, []int{0}), typedCase(both, withLists(patternName("q", i), []impl.Ty{a}, []int{0}), let), typedCase(both, withLists(patternAny(i), []impl.Ty{a}, []int{0}), let), withLists(let, []impl.Ty{a}, let.Vars)} {
		wantChecked(t, typed, true)
	}
	// A name takes as many Insts as it is for all of, whatever Insts its let has.
	wantChecked(t, withLists(typedLet("n", n, typedName("n", list, i)), []impl.Ty{i}, nil), false)
	wantChecked(t, withLists(typedLet("n", n, typedName("n", list)), []impl.Ty{i}, nil), true)
}

// Promise 8 stays: what is found stands for a tree that has more lists than are asked, too.
func TestWhatIsFoundStandsForTreesWithMoreLists(t *testing.T) {
	s := steps(90)
	for i := range 2000 {
		p := s.madeProg(1 + i%5)
		found, ok := holdFound(t, p)
		if !ok {
			t.Fatal("no types are found")
		}
		other := copiedTyped(found)
		for _, part := range typedIn(&other) {
			if !asksInst(part.Op) && s.below(2) == 0 {
				part.Inst = append(part.Inst, s.randomTy(4, 1+s.below(3)))
			}
			if !asksVars(part.Op) && s.below(2) == 0 {
				part.Vars = append(part.Vars, someNumber(&s))
			}
		}
		if !impl.CheckTyped(p.Datas, other) || !checkedBy(p.Datas, other) {
			t.Fatalf("%s is not checked", shown(other))
		}
		if why := standsForTree(found, other); why != "" {
			t.Fatalf("%s: %s", shown(other), why)
		}
	}
}
