package tests

import (
	"math"
	"slices"
	"testing"

	"loop.example/g00323/impl"
)

// foundOf is what Infer finds of a program behind the datas L, P, U and B.
func foundOf(src string) impl.Typed {
	found, how := impl.Infer(progOf(src))
	if how != impl.IfDone {
		panic("no types: " + src)
	}
	return found
}

// wantChecked holds the answer against the second telling, too.
func wantChecked(t *testing.T, typed impl.Typed, want bool) {
	t.Helper()
	datas := datasOf(someData)
	if got := impl.CheckTyped(datas, typed); got != want || checkedBy(datas, typed) != want {
		t.Errorf("%s is checked: %v, not %v", short(toldTyped(typed)), got, want)
	}
}

// wantTurned holds that what is found of a program is checked, and whether it is when it is turned.
func wantTurned(t *testing.T, src string, want bool, turn func(*impl.Typed)) {
	t.Helper()
	typed := foundOf(src)
	wantChecked(t, typed, true)
	turn(&typed)
	datas := datasOf(someData)
	if got := impl.CheckTyped(datas, typed); got != want || checkedBy(datas, typed) != want {
		t.Errorf("%s, turned to %s, is checked: %v, not %v", src, short(toldTyped(typed)), got, want)
	}
}

// programsOfEachKind have all kinds of nodes and of patterns.
func programsOfEachKind() []string {
	return []string{"3", "fun x -> x", "fun x -> fun y -> x", "(fun x -> x) 3", "fun f -> f 1", "let x = 1 in x", "let i = fun x -> x in i", "let i = fun x -> x in i (i 3)", "let k = fun x -> fun y -> x in P (k 1) (k U)",
		"rec f x = x in f", "rec f x = f x in f", "rec f x = x + 1 in f", "rec f f = f in f", "rec f x = 1 in U", "fun x -> rec f y = x in P (f 1) (f U)", "fun x -> let y = x in y", "fun x -> let y = fun z -> P x z in P (y 1) (y U)",
		"if 1 then 2 else 3", "fun x -> fun y -> fun z -> if x then y else z", "N", "U", "C 1 N", "P U (fun x -> x)", "B (B N)", "put 3", "1 + 2", "1 - 2", "1 * 2", "1 < 2", "1 == 2",
		"case 1 of { _ -> 2 }", "case 1 of { 0 -> U; x -> U }", "fun x -> case x of { y -> y }", "case N of { N -> 1 }", "fun l -> case l of { C x _ -> x }", "fun l -> case l of { N -> 0; C (P x U) (C _ y) -> x }", "fun p -> case p of { P x y -> P y x }",
		"let n = N in let m = C n n in m", "let p = P N N in P p p", "fun x -> case x of { P a b -> let y = fun z -> P b z in y }", "rec m f = fun l -> case l of { N -> N; C x t -> C (f x) (m f t) } in m (fun x -> x * x) (C 1 (C 2 N))"}
}

func TestWhatIsFoundIsChecked(t *testing.T) {
	var all []impl.Typed
	for _, src := range programsOfEachKind() {
		typed := foundOf(src)
		wantChecked(t, typed, true)
		if told(impl.Erase(typed)) != told(progOf(src).Main) {
			t.Errorf("Erase of what is found of %s is %s", src, told(impl.Erase(typed)))
		}
		all = append(all, typed)
	}
	for op, met := impl.NdNum, kindsIn(all...); op <= impl.PtCon; op++ {
		if met[op] == 0 {
			t.Errorf("no program has a node of kind %d", op)
		}
	}
}

// holdFound is promise 8's first half.
func holdFound(t *testing.T, p impl.Prog) (impl.Typed, bool) {
	t.Helper()
	found, how := impl.Infer(p)
	if how != impl.IfDone {
		return found, false
	}
	if !impl.CheckTyped(p.Datas, found) || told(impl.Erase(found)) != told(p.Main) {
		t.Fatalf("what is found of %s is not checked, or is another tree: %s", short(toldProg(p)), shown(found))
	}
	return found, true
}

func TestWhatIsFoundOfMadeProgramsIsChecked(t *testing.T) {
	s := steps(81)
	done := 0
	for i := range 6000 {
		p := s.madeProg(1 + i%6)
		for left := s.below(3) - 1; left > 0; left-- {
			s.swappedNode(&p)
		}
		if _, ok := holdFound(t, p); ok {
			done++
		}
	}
	if done < 4000 {
		t.Errorf("only of %d programs types are found", done)
	}
}

func TestWhatIsFoundOfAllSmallTreesIsChecked(t *testing.T) {
	bySize := make([][]impl.Node, 6)
	datas := datasOf(someData)
	done := 0
	for size := 1; size < len(bySize); size++ {
		bySize[size] = smallNodes(size, bySize)
		for _, n := range bySize[size] {
			if _, ok := holdFound(t, impl.Prog{Datas: datas, Main: n}); ok {
				done++
			}
		}
	}
	if done < 300 {
		t.Errorf("only of %d trees types are found", done)
	}
}

// One field of one node is turned, now and then two: what is checked then is told by the second telling.
func TestTurnedTrees(t *testing.T) {
	s := steps(82)
	met := map[string][2]int{}
	for i := range 24000 {
		p := s.madeProg(1 + i%5)
		if i%2 == 0 {
			list := programsOfEachKind()
			p = progOf(list[s.below(len(list))])
		}
		typed, how := impl.Infer(p)
		if how != impl.IfDone {
			t.Fatal(how)
		}
		kept := copiedTyped(typed)
		field := s.turnTyped(&typed)
		if i%3 == 0 {
			s.turnTyped(&typed)
		}
		want := checkedBy(p.Datas, typed)
		if got := impl.CheckTyped(p.Datas, typed); got != want {
			t.Fatalf("%s of\n%s turned:\n%s is checked: %v", field, toldTyped(kept), toldTyped(typed), got)
		}
		if toldTyped(kept) != toldTyped(typed) {
			many := met[field]
			many[map[bool]int{false: 0, true: 1}[want]]++
			met[field] = many
		}
	}
	for _, field := range []string{"Ty", "Inst", "Vars", "S", "T", "Kids", "Op", "all types"} {
		if met[field][0] < 150 || met[field][1] < 10 {
			t.Errorf("of %s %v times it is not checked, and is", field, met[field])
		}
	}
}

// What was never found by anyone is checked as the second telling has it.
func TestRandomTrees(t *testing.T) {
	s := steps(83)
	for range 5000 {
		typed := s.randomTyped(1 + s.below(4))
		if got := impl.CheckTyped(nil, typed); got != checkedBy(nil, typed) {
			t.Fatalf("%s is checked: %v", toldTyped(typed), got)
		}
	}
	for _, datas := range [][]impl.Data{nil, {}, datasOf(someData)} {
		if impl.CheckTyped(datas, impl.Typed{}) {
			t.Error("nothing is checked")
		}
	}
}

func typedNum() impl.Typed { return impl.Typed{Op: impl.NdNum, N: 1, Ty: intTy()} }

func typedName(name string, ty impl.Ty, inst ...impl.Ty) impl.Typed {
	return impl.Typed{Op: impl.NdVar, S: name, Ty: ty, Inst: inst}
}

func typedFun(name string, from impl.Ty, kid impl.Typed) impl.Typed {
	return impl.Typed{Op: impl.NdFun, S: name, Ty: funTy(from, kid.Ty), Kids: []impl.Typed{kid}}
}

func typedLet(name string, first, second impl.Typed, vars ...int) impl.Typed {
	return impl.Typed{Op: impl.NdLet, S: name, Ty: second.Ty, Vars: vars, Kids: []impl.Typed{first, second}}
}

func typedRec(name, argument string, from impl.Ty, first, second impl.Typed, vars ...int) impl.Typed {
	return impl.Typed{Op: impl.NdRec, S: name, T: argument, Ty: second.Ty, Inst: []impl.Ty{from}, Vars: vars, Kids: []impl.Typed{first, second}}
}

// typedCase has one alternative.
func typedCase(asked, pattern, body impl.Typed) impl.Typed {
	alt := impl.Typed{Op: impl.NdAlt, Ty: body.Ty, Kids: []impl.Typed{pattern, body}}
	return impl.Typed{Op: impl.NdCase, Ty: body.Ty, Kids: []impl.Typed{asked, alt}}
}

func typedCon(op int, name string, ty impl.Ty, kids ...impl.Typed) impl.Typed {
	return impl.Typed{Op: op, S: name, Ty: ty, Inst: ty.Kids, Kids: kids}
}

func patternName(name string, ty impl.Ty) impl.Typed {
	return impl.Typed{Op: impl.PtVar, S: name, Ty: ty}
}

func patternAny(ty impl.Ty) impl.Typed { return impl.Typed{Op: impl.PtAny, Ty: ty} }

// Each type of each node and each of its Insts, where another one is not what the kids say.
func TestEachTypeTurned(t *testing.T) {
	others := []impl.Ty{intTy(), dataTy("U"), varTy(50), funTy(varTy(50), varTy(51)), dataTy("L", varTy(50)), {}, varTy(-1)}
	for _, src := range []string{"3", "let x = 1 in x", "(fun x -> x) 3", "let i = fun x -> x in i (i 3)", "rec f x = x + 1 in f 1", "if 1 then 2 else 3", "C 1 N", "put 3", "1 + 2", "1 - 2", "1 * 2", "1 < 2", "1 == 2", "case 1 of { 0 -> U; x -> U }", "case P 1 U of { P 1 y -> y; P _ U -> U; _ -> U }", "let n = C 1 N in case n of { C x (C _ t) -> t }"} {
		whole := foundOf(src)
		for i, ty := range typesWithin(&whole) {
			kept := *ty
			for _, other := range others {
				if *ty = other; !sameTy(kept, other) {
					if wantChecked(t, whole, false); t.Failed() {
						t.Fatalf("%s: type %d turned", src, i)
					}
				}
			}
			*ty = kept
		}
		wantChecked(t, whole, true)
	}
}

// withOp is a node of that kind, whatever its kids are.
func withOp(op int, ty impl.Ty, kids ...impl.Typed) impl.Typed {
	return impl.Typed{Op: op, Ty: ty, Kids: kids}
}

// Each kid is right by itself, and what the node asks of it is the question.
func TestKidsOfOtherTypes(t *testing.T) {
	i, u, a := intTy(), dataTy("U"), varTy(0)
	one, con, f := typedNum(), typedCon(impl.NdCon, "U", dataTy("U")), typedFun("x", dataTy("U"), typedNum())
	wantAll := func(want bool, list ...impl.Typed) {
		t.Helper()
		for _, typed := range list {
			wantChecked(t, typed, want)
			wantChecked(t, typedLet("y", typed, con), want)
		}
	}
	for op := impl.NdAdd; op <= impl.NdSame; op++ {
		wantAll(true, withOp(op, i, one, one))
		wantAll(false, withOp(op, i, one, con), withOp(op, i, con, one), withOp(op, i, con, con), withOp(op, u, one, one), withOp(op, u, con, con), withOp(op, a, one, one), withOp(op, i, f, one))
	}
	wantAll(true, withOp(impl.NdPut, i, one), withOp(impl.NdIf, i, one, one, one), withOp(impl.NdIf, u, one, con, con), withOp(impl.NdApp, i, f, con), typedFun("x", a, one), typedLet("x", one, con), typedRec("g", "x", i, one, con))
	wantAll(false, withOp(impl.NdPut, i, con), withOp(impl.NdPut, u, con), withOp(impl.NdPut, u, one))
	wantAll(false, withOp(impl.NdIf, i, con, one, one), withOp(impl.NdIf, i, one, con, one), withOp(impl.NdIf, i, one, one, con), withOp(impl.NdIf, i, one, con, con), withOp(impl.NdIf, u, one, one, one), withOp(impl.NdIf, u, con, con, con), withOp(impl.NdIf, a, one, one, one))
	wantAll(false, withOp(impl.NdApp, i, f, one), withOp(impl.NdApp, u, f, con), withOp(impl.NdApp, a, f, con), withOp(impl.NdApp, i, one, con), withOp(impl.NdApp, i, con, f), withOp(impl.NdApp, f.Ty, f, con), withOp(impl.NdApp, i, f, f))
	for _, ty := range []impl.Ty{i, u, a, funTy(i, u), funTy(i, a), dataTy("L", i, i), funTy(i, funTy(i, i))} {
		turned := typedFun("x", i, one)
		turned.Ty = ty
		wantAll(false, turned)
	}
	for _, typed := range []impl.Typed{typedLet("x", one, con), typedRec("g", "x", i, one, con)} {
		for _, ty := range []impl.Ty{i, a, funTy(i, i)} {
			typed.Ty = ty
			wantAll(false, typed)
		}
	}
	// Alternatives, each of which may be wrong.
	alt := func(ty impl.Ty, pattern, body impl.Typed) impl.Typed { return withOp(impl.NdAlt, ty, pattern, body) }
	right := alt(u, patternAny(i), con)
	wantAll(true, withOp(impl.NdCase, u, one, right), withOp(impl.NdCase, u, one, right, right, right), withOp(impl.NdCase, u, one, alt(u, withOp(impl.PtNum, i), con)))
	wantAll(false, withOp(impl.NdCase, i, one, right), withOp(impl.NdCase, u, con, right), withOp(impl.NdCase, a, one, right))
	for _, wrong := range []impl.Typed{alt(u, patternAny(u), con), alt(u, patternAny(a), con), alt(u, patternAny(i), one), alt(i, patternAny(i), con), alt(i, patternAny(i), one), alt(a, patternAny(i), con), alt(u, withOp(impl.PtNum, u), con), alt(u, typedCon(impl.PtCon, "U", u), con), alt(u, patternName("x", f.Ty), con)} {
		wantAll(false, withOp(impl.NdCase, u, one, wrong), withOp(impl.NdCase, u, one, wrong, right), withOp(impl.NdCase, u, one, right, wrong), withOp(impl.NdCase, u, one, right, wrong, right))
	}
	wantAll(false, withOp(impl.NdCase, u, con, alt(u, withOp(impl.PtNum, u), con)))
}

// A list of a node that is one too short or one too long.
func TestTooFewAndTooMany(t *testing.T) {
	for _, src := range programsOfEachKind() {
		whole := foundOf(src)
		for _, part := range typedIn(&whole) {
			kept := *part
			turned := func(made impl.Typed, want bool) {
				t.Helper()
				*part = made
				wantChecked(t, whole, want)
				*part = kept
			}
			more := kept
			more.Inst = append(slices.Clone(kept.Inst), intTy())
			turned(more, !asksInst(kept.Op))
			more = kept
			more.Vars = append(slices.Clone(kept.Vars), 1000)
			turned(more, !asksVars(kept.Op))
			for _, kid := range []impl.Typed{typedNum(), patternAny(intTy()), patternAny(kept.Ty), {}, {Op: impl.NdAlt, Ty: dataTy("Q"), Kids: []impl.Typed{patternAny(intTy()), typedNum()}}} {
				more = kept
				more.Kids = append(slices.Clone(kept.Kids), kid)
				turned(more, false)
				more.Kids = append([]impl.Typed{kid}, kept.Kids...)
				turned(more, false)
			}
			if kept.Op == impl.NdCase { // another one of its alternatives is none too many, and none too few, but the last one
				more.Kids = append(slices.Clone(kept.Kids), kept.Kids[1])
				turned(more, true)
				more.Kids = kept.Kids[:2]
				turned(more, true)
				more.Kids = kept.Kids[:1]
				turned(more, false)
			} else if len(kept.Kids) > 0 {
				more.Kids = kept.Kids[1:]
				turned(more, false)
				more.Kids = kept.Kids[:len(kept.Kids)-1]
				turned(more, false)
			}
			if len(kept.Inst) > 0 {
				more = kept
				more.Inst = kept.Inst[1:]
				turned(more, false)
			}
			if t.Failed() {
				t.Fatalf("%s: %s", src, shown(kept))
			}
		}
	}
	// Fewer Vars are wrong only where the name is used by more.
	wantTurned(t, "let i = fun x -> x in i 1", false, func(w *impl.Typed) { w.Vars = nil })
	wantTurned(t, "let i = fun x -> x in 1", true, func(w *impl.Typed) { w.Vars = nil })
	wantTurned(t, "rec i x = x in i 1", false, func(w *impl.Typed) { w.Vars = nil })
	wantTurned(t, "rec i x = x in 1", true, func(w *impl.Typed) { w.Vars = nil })
	wantTurned(t, "let k = fun x -> fun y -> x in k", false, func(w *impl.Typed) { w.Vars = w.Vars[:1] })
	wantTurned(t, "let k = fun x -> fun y -> x in k", true, func(w *impl.Typed) {
		w.Vars, w.Kids[1].Inst = w.Vars[:1], w.Kids[1].Inst[:1]
		w.Ty = funTy(varTy(2), funTy(varTy(1), varTy(2)))
		w.Kids[1].Ty = w.Ty
	})
}

// A node with the kids of another kind, and one where none of its kind may stand.
func TestKindsTurned(t *testing.T) {
	wrong := 0
	for _, src := range programsOfEachKind() {
		whole := foundOf(src)
		for _, part := range typedIn(&whole) {
			kept := part.Op
			for op := -2; op <= impl.PtCon+2; op++ {
				part.Op = op
				got, want := impl.CheckTyped(datasOf(someData), whole), checkedBy(datasOf(someData), whole)
				if got != want || op == kept && !got {
					t.Fatalf("%s: with op %d in the place of %d it is checked: %v, not %v", src, op, kept, got, want)
				}
				if !got {
					wrong++
				}
			}
			for _, op := range []int{math.MinInt, math.MaxInt, 0, -1, 21, 1 << 32} {
				if part.Op = op; impl.CheckTyped(datasOf(someData), whole) {
					t.Fatalf("%s: with op %d it is checked", src, op)
				}
			}
			part.Op = kept
		}
	}
	if wrong < 2000 {
		t.Errorf("only %d nodes are wrong as another kind", wrong)
	}
	for _, typed := range []impl.Typed{patternAny(intTy()), patternName("x", intTy()), {Op: impl.PtNum, Ty: intTy()}, typedCon(impl.PtCon, "U", dataTy("U")), {Op: impl.NdAlt, Ty: intTy(), Kids: []impl.Typed{patternAny(intTy()), typedNum()}}} {
		wantChecked(t, typed, false)
		wantChecked(t, typedFun("x", intTy(), typed), false)
	}
}

// What only chapter 4 asks of a tree is not asked here: names and numbers of any form, and how deep it is.
func TestWhatIsNotAskedOfATree(t *testing.T) {
	for _, n := range []int{0, -1, 77, math.MaxInt, math.MinInt} {
		wantTurned(t, "fun x -> case 3 of { 4 -> x }", true, func(w *impl.Typed) {
			kidAt(w, 0, 0).N, kidAt(w, 0, 1, 0).N = n, n
		})
	}
	for _, name := range []string{"", "X", "let", " ", "a\x00b", "longerthaneight", "x1"} {
		for _, src := range []string{"fun x -> x", "let x = 1 in x", "rec f x = x in 1", "rec x y = x 1 in x", "case 1 of { x -> x }"} {
			wantTurned(t, src, true, func(w *impl.Typed) {
				for _, part := range typedIn(w) {
					if part.S == "x" {
						part.S = name
					}
					if part.T == "x" {
						part.T = name
					}
				}
			})
		}
	}
	deep := typedNum()
	for range 5 * treeDeep {
		deep = impl.Typed{Op: impl.NdPut, Ty: intTy(), Kids: []impl.Typed{deep}}
	}
	wantChecked(t, deep, true)
	kidAt(&deep, slices.Repeat([]int{0}, 5*treeDeep)...).Ty = dataTy("U")
	wantChecked(t, deep, false)
}

func TestNames(t *testing.T) {
	i, u := intTy(), dataTy("U")
	x, f := typedName("x", i), typedName("f", funTy(i, i))
	a := typedNum()
	con := typedCon(impl.NdCon, "U", u)
	for _, typed := range []impl.Typed{typedFun("x", i, x), typedFun("x", u, typedFun("x", i, x)), typedFun("x", i, typedFun("y", u, x)), typedLet("x", a, x), typedLet("x", con, typedLet("x", a, x)), typedLet("x", a, typedLet("y", x, x)), typedLet("y", typedLet("x", a, x), a),
		typedRec("f", "x", i, x, f), typedRec("f", "x", i, typedLet("g", f, x), f), typedRec("x", "x", i, x, a), typedRec("f", "f", i, typedName("f", i), f), typedCase(a, patternName("x", i), x), typedFun("x", u, typedCase(a, patternName("x", i), x)), typedFun("x", i, typedCase(con, patternName("y", u), x)),
		typedCase(typedCon(impl.NdCon, "P", dataTy("P", u, i), con, a), typedCon(impl.PtCon, "P", dataTy("P", u, i), patternName("y", u), patternName("x", i)), x), typedLet("x", a, typedCase(x, patternAny(i), x))} {
		wantChecked(t, typed, true)
	}
	// Bound by nothing about it, or by something of another type, or with Insts that its name has not.
	for _, typed := range []impl.Typed{x, typedLet("x", x, a), typedLet("y", a, x), typedFun("y", i, x), typedFun("x", u, x), typedFun("x", i, typedFun("x", u, x)), typedFun("x", varTy(0), x), typedFun("x", i, typedName("x", varTy(0))), typedLet("x", a, typedLet("x", con, x)), typedLet("y", typedLet("x", a, x), x),
		typedRec("f", "x", i, x, x), typedRec("f", "x", u, x, a), typedRec("f", "y", i, x, a), typedRec("f", "x", i, typedLet("g", typedName("g", i), x), a), typedRec("f", "x", i, con, f), typedRec("f", "x", u, a, f), typedRec("f", "f", i, typedLet("g", f, a), a), typedRec("f", "x", i, typedLet("g", typedName("f", funTy(i, u)), a), a),
		typedCase(x, patternName("x", i), a), typedCase(a, patternName("y", i), x), typedFun("x", i, typedCase(con, patternName("x", u), x)), typedFun("x", i, typedName("x", i, i)), typedFun("x", varTy(0), typedName("x", i, i)), typedLet("x", typedCase(a, patternName("x", i), x), typedLet("y", typedCase(a, patternName("z", i), typedName("z", i)), typedName("z", i)))} {
		wantChecked(t, typed, false)
	}
	// A name of one alternative is none of another one.
	two := typedCase(a, patternName("x", i), x)
	two.Kids = append(two.Kids, impl.Typed{Op: impl.NdAlt, Ty: i, Kids: []impl.Typed{patternName("y", i), typedName("y", i)}})
	wantChecked(t, two, true)
	two.Kids[2].Kids[1].S = "x"
	wantChecked(t, two, false)
}

func TestVarsThatAreForAll(t *testing.T) {
	i, a, b := intTy(), varTy(0), varTy(1)
	id := func(ty impl.Ty) impl.Typed { return typedFun("z", ty, typedName("z", ty)) }
	one := typedNum()
	// Free in nothing about it: for all, or for some, or for none; in any order, and twice, where the first one counts.
	k := typedFun("x", a, typedFun("y", b, typedName("x", a)))
	kTy := func(x, y impl.Ty) impl.Ty { return funTy(x, funTy(y, x)) }
	u := dataTy("U")
	for _, typed := range []impl.Typed{typedLet("f", id(a), typedName("f", funTy(i, i), i), 0), typedLet("f", id(a), typedName("f", funTy(a, a))), typedLet("f", id(i), typedName("f", funTy(i, i))), typedLet("f", id(a), typedName("f", funTy(b, b), b), 0), typedLet("f", id(a), typedName("f", funTy(a, a), a), 0),
		typedLet("k", k, typedName("k", kTy(i, u), i, u), 0, 1), typedLet("k", k, typedName("k", kTy(i, u), u, i), 1, 0), typedLet("k", k, typedName("k", kTy(i, b), i), 0), typedLet("k", k, typedName("k", kTy(a, i), i), 1), typedLet("k", k, typedName("k", kTy(a, b))), typedLet("k", k, typedName("k", kTy(b, a), b, a), 0, 1), typedLet("k", k, typedName("k", kTy(i, i), i, u, i), 0, 0, 1), typedLet("k", k, typedName("k", kTy(i, b), i, u), 0, 0),
		typedRec("f", "x", a, typedName("x", a), typedName("f", funTy(i, i), i), 0), typedRec("f", "x", a, typedName("x", a), typedName("f", funTy(a, a))), typedRec("f", "x", a, one, typedName("f", funTy(u, i), u), 0), typedRec("f", "x", i, typedCon(impl.NdCon, "N", dataTy("L", a)), typedName("f", funTy(i, dataTy("L", u)), u), 0)} {
		wantChecked(t, typed, true)
	}
	for _, typed := range []impl.Typed{typedLet("f", id(a), typedName("f", funTy(i, i), i)), typedLet("f", id(a), typedName("f", funTy(i, i)), 0), typedLet("f", id(a), typedName("f", funTy(i, i), u), 0), typedLet("f", id(a), typedName("f", funTy(i, i), i, i), 0), typedLet("f", id(a), typedName("f", funTy(i, i))), typedLet("k", k, typedName("k", kTy(i, u), i, u), 1, 0), typedLet("k", k, typedName("k", kTy(u, i), i, u, i), 0, 0, 1),
		// and vars that its type has not
		typedLet("f", id(a), one, 1), typedLet("f", id(a), one, 0, 1), typedLet("f", id(i), one, 0), typedLet("f", one, one, 0), typedLet("f", id(a), one, -1), typedLet("f", id(a), one, 0, math.MaxInt), typedLet("f", id(a), typedName("f", funTy(i, i), u, i), 1, 0), typedRec("f", "x", a, one, one, 1), typedRec("f", "x", i, one, one, 0),
		// What is for all in its own type is not for all in what binds it, nor in its first kid.
		typedRec("f", "x", a, typedLet("g", typedName("f", funTy(i, i), i), typedName("x", a)), one, 0), typedRec("f", "x", a, typedLet("g", typedName("f", funTy(a, a), a), typedName("x", a)), one, 0), typedLet("f", typedLet("g", id(a), typedName("g", funTy(i, i), i)), one, 0)} {
		wantChecked(t, typed, false)
	}
}

// boundAbout are ways to bind a name of that type about a tree, which is of an Int.
func boundAbout(ty impl.Ty, kid impl.Typed) []impl.Typed {
	asked := func(within impl.Typed) impl.Typed { return typedFun("w", ty, within) }
	w := typedName("w", ty)
	return []impl.Typed{typedFun("q", ty, kid), typedFun("q", ty, typedFun("r", intTy(), kid)), typedFun("x", intTy(), typedFun("q", ty, kid)), asked(typedCase(w, patternName("q", ty), kid)), typedCase(typedFun("v", ty, typedNum()), patternAny(funTy(ty, intTy())), typedFun("q", ty, kid)),
		typedRec("q", "r", ty, kid, typedNum()), typedRec("q", "r", intTy(), typedLet("s", kid, typedApp(typedName("q", funTy(intTy(), ty)), typedName("r", intTy()))), typedNum()),
		// Another name hides it: it is bound about it still.
		typedFun("q", ty, typedFun("q", intTy(), kid)), typedFun("q", ty, typedLet("q", typedNum(), kid)), typedFun("q", ty, typedCase(typedNum(), patternName("q", intTy()), kid)), typedFun("f", ty, kid), typedFun("z", ty, kid)}
}

func TestVarsThatAreFreeAbout(t *testing.T) {
	i, a, b := intTy(), varTy(0), varTy(1)
	z := typedFun("z", a, typedName("z", a))
	uses := []impl.Typed{typedLet("f", z, typedNum(), 0), typedRec("f", "z", a, typedName("z", a), typedNum(), 0), typedRec("f", "z", a, typedNum(), typedNum(), 0), typedLet("f", typedFun("z", a, typedFun("y", b, typedName("z", a))), typedNum(), 0, 1), typedLet("f", typedCon(impl.NdCon, "N", dataTy("L", a)), typedNum(), 0)}
	for _, kid := range uses {
		wantChecked(t, kid, true)
		for _, ty := range []impl.Ty{i, varTy(5), dataTy("U"), dataTy("L", varTy(5)), funTy(varTy(6), varTy(7))} {
			for _, typed := range boundAbout(ty, kid) {
				wantChecked(t, typed, true)
			}
		}
		for _, ty := range []impl.Ty{a, dataTy("L", a), funTy(i, a), funTy(a, varTy(5)), dataTy("P", dataTy("B", i), funTy(varTy(3), dataTy("L", a)))} {
			for _, typed := range boundAbout(ty, kid) {
				wantChecked(t, typed, false)
			}
		}
		if t.Failed() {
			t.Fatal(shown(kid))
		}
	}
	// What is for all about it is free there no more; what is not for all there is.
	n := typedCon(impl.NdCon, "N", dataTy("L", a))
	g := typedFun("x", a, typedFun("y", b, typedName("x", a)))
	for _, c := range []struct {
		vars []int
		kid  impl.Typed
		want bool
	}{{[]int{0, 1}, uses[0], true}, {[]int{1, 0}, uses[0], true}, {[]int{0}, uses[0], true}, {[]int{1}, uses[0], false}, {nil, uses[0], false}, {[]int{0}, uses[3], false}, {[]int{0, 1}, uses[3], true}, {[]int{0, 0, 1}, uses[3], true}} {
		wantChecked(t, typedLet("g", g, c.kid, c.vars...), c.want)
	}
	wantChecked(t, typedLet("n", n, typedLet("m", typedName("n", dataTy("L", a), a), typedName("m", dataTy("L", i), i), 0), 0), true)
	wantChecked(t, typedLet("n", n, typedLet("m", typedName("n", dataTy("L", a)), typedName("m", dataTy("L", i), i), 0)), false)
	wantChecked(t, typedLet("n", n, typedLet("m", typedName("n", dataTy("L", a)), typedName("m", dataTy("L", a)))), true)
	// What is bound in its own kids, and what is bound beside it, is not about it.
	wantChecked(t, typedLet("f", z, typedFun("x", a, typedName("x", a)), 0), true)
	wantChecked(t, typedLet("f", typedLet("x", z, typedName("x", funTy(a, a))), typedNum(), 0), true)
	wantChecked(t, typedLet("p", typedFun("x", a, typedName("x", a)), uses[0]), false)
	wantChecked(t, typedLet("p", typedLet("q", typedFun("x", a, typedName("x", a)), typedNum()), uses[0]), true)
	// As promise 7 has it, in what is found.
	wantTurned(t, "fun x -> let y = x in y", false, func(w *impl.Typed) { w.Kids[0].Vars = []int{0} })
	wantTurned(t, "fun x -> let y = x in y", false, func(w *impl.Typed) {
		w.Kids[0].Vars, kidAt(w, 0, 1).Inst = []int{0}, []impl.Ty{varTy(0)}
	})
	wantTurned(t, "fun x -> rec y z = x in 1", false, func(w *impl.Typed) { w.Kids[0].Vars = []int{kidAt(w, 0, 0).Ty.N} })
	wantTurned(t, "case N of { x -> let y = x in 1 }", false, func(w *impl.Typed) { kidAt(w, 1, 1).Vars = []int{0} })
	wantTurned(t, "fun x -> let y = fun z -> x in y", false, func(w *impl.Typed) { w.Kids[0].Vars = []int{0} })
	wantTurned(t, "fun x -> let y = fun z -> x in 1", false, func(w *impl.Typed) { w.Kids[0].Vars = []int{0, 1} })
}

func TestNamesThatAPatternBindsTwice(t *testing.T) {
	i := intTy()
	pair := func(left, right impl.Typed) impl.Typed {
		return typedCon(impl.PtCon, "P", dataTy("P", left.Ty, right.Ty), left, right)
	}
	box := func(kid impl.Typed) impl.Typed { return typedCon(impl.PtCon, "B", dataTy("B", kid.Ty), kid) }
	x, y, z, any := patternName("x", i), patternName("y", i), patternName("z", i), patternAny(i)
	whole := func(pattern impl.Typed, body impl.Typed) impl.Typed {
		return typedFun("a", pattern.Ty, typedCase(typedName("a", pattern.Ty), pattern, body))
	}
	for _, c := range []struct {
		pattern impl.Typed
		want    bool
	}{{pair(x, y), true}, {pair(x, any), true}, {pair(any, x), true}, {pair(pair(x, y), z), true}, {pair(x, pair(y, z)), true}, {pair(box(x), box(y)), true}, {pair(x, patternName("", i)), true}, {pair(any, patternAny(i)), true},
		{pair(x, x), false}, {pair(x, patternName("x", dataTy("U"))), false}, {pair(pair(x, y), x), false}, {pair(pair(y, x), x), false}, {pair(x, pair(y, x)), false}, {pair(x, pair(x, y)), false}, {pair(box(x), box(box(x))), false}, {box(pair(x, x)), false}, {pair(y, pair(x, x)), false}, {pair(pair(x, x), y), false}, {pair(patternName("", i), patternName("", i)), false}} {
		wantChecked(t, whole(c.pattern, typedNum()), c.want)
		if c.want {
			continue
		}
		wantChecked(t, typedLet("q", whole(c.pattern, typedNum()), typedNum()), false)
		second := whole(patternAny(c.pattern.Ty), typedNum())
		second.Kids[0].Kids = append(second.Kids[0].Kids, whole(c.pattern, typedNum()).Kids[0].Kids[1])
		wantChecked(t, second, false)
	}
	// Two patterns may bind one name, and a name about it may be bound again.
	two := whole(pair(x, y), typedName("x", i))
	two.Kids[0].Kids = append(two.Kids[0].Kids, whole(pair(y, x), typedName("x", i)).Kids[0].Kids[1])
	wantChecked(t, two, true)
	wantChecked(t, typedFun("x", i, whole(pair(x, y), typedName("x", i))), true)
	wantChecked(t, whole(pair(x, y), whole(pair(y, x), typedName("x", i))), true)
	wantChecked(t, whole(pair(patternName("a", i), y), typedName("a", i)), true)
}

func TestConsThatAreChecked(t *testing.T) {
	datas := append(datasOf(someData), datasOf("data M a b c = M (c -> a) (P b c) Int (M Int a b) | O;")...)
	i, u, a := intTy(), dataTy("U"), varTy(0)
	m := dataTy("M", a, u, i)
	some := func(op int) []impl.Typed { // what is of any type as an expression, or as a pattern
		kid := func(ty impl.Ty) impl.Typed {
			if op == impl.PtCon {
				return patternAny(ty)
			}
			return typedCase(typedRec("f", "x", i, typedLet("g", typedName("f", funTy(i, ty)), typedApp(typedName("f", funTy(i, ty)), typedNum())), typedApp(typedName("f", funTy(i, ty)), typedNum())), patternName("q", ty), typedName("q", ty))
		}
		return []impl.Typed{kid(funTy(i, a)), kid(dataTy("P", u, i)), kid(i), kid(dataTy("M", i, a, u))}
	}
	for _, op := range []int{impl.NdCon, impl.PtCon} {
		whole := func(con impl.Typed) impl.Typed {
			if op == impl.NdCon {
				return con
			}
			return typedFun("w", con.Ty, typedCase(typedName("w", con.Ty), con, typedNum()))
		}
		hold := func(want bool, con impl.Typed) {
			t.Helper()
			if got := impl.CheckTyped(datas, whole(con)); got != want || checkedBy(datas, whole(con)) != want {
				t.Errorf("%s is checked: %v, not %v", shown(con), got, want)
			}
		}
		hold(true, typedCon(op, "M", m, some(op)...))
		hold(true, typedCon(op, "O", m))
		hold(true, typedCon(op, "U", u))
		for at := range 4 {
			for _, ty := range []impl.Ty{a, i, u, varTy(7), funTy(a, i), dataTy("P", i, u), dataTy("M", a, i, u)} {
				kids := some(op)
				if kids[at] = patternAny(ty); op == impl.NdCon {
					kids[at] = typedCase(typedFun("y", ty, typedName("y", ty)), patternAny(funTy(ty, ty)), typedNum())
				}
				hold(at == 2 && kids[at].Ty.Op == impl.TyInt, typedCon(op, "M", m, kids...))
			}
			hold(false, typedCon(op, "M", m, slices.Delete(some(op), at, at+1)...))
			hold(false, typedCon(op, "M", m, slices.Insert(some(op), at, some(op)[at])...))
		}
		for _, kids := range [][]impl.Typed{nil, some(op)[:1], append(some(op), some(op)[3]), {some(op)[1], some(op)[0], some(op)[2], some(op)[3]}} {
			hold(false, typedCon(op, "M", m, kids...))
		}
		for _, name := range []string{"Q", "", "L", "m", "M ", "C", "N", "U"} {
			hold(false, typedCon(op, name, m, some(op)...))
			hold(false, typedCon(op, name, m))
		}
		hold(false, typedCon(op, "U", u, some(op)[2]))
		hold(false, typedCon(op, "O", m, some(op)[2]))
		// Insts and its own type
		for _, inst := range [][]impl.Ty{nil, {a}, {a, u}, {a, u, i, i}, {u, a, i}, {i, u, a}, {a, u, u}, {a, a, i}} {
			con := typedCon(op, "M", m, some(op)...)
			con.Inst = inst
			hold(false, con)
			con.Ty = dataTy("M", inst...)
			hold(false, con)
			con = typedCon(op, "O", m)
			con.Inst = inst
			hold(false, con)
			con.Ty = dataTy("M", inst...)
			hold(len(inst) == 3, con)
		}
		for _, ty := range []impl.Ty{i, a, dataTy("M"), dataTy("L", a, u, i), dataTy("O", a, u, i), dataTy("M", a, u), dataTy("M", a, u, i, i), funTy(a, u)} {
			con := typedCon(op, "O", m)
			con.Ty = ty
			hold(false, con)
		}
	}
}

func typedApp(f, argument impl.Typed) impl.Typed {
	return impl.Typed{Op: impl.NdApp, Ty: f.Ty.Kids[1], Kids: []impl.Typed{f, argument}}
}

// withType are trees in which each type is as the kids say, whatever that one is: only TyOk may be against it.
func withType(ty impl.Ty) []impl.Typed {
	i := intTy()
	x := typedName("x", ty)
	return []impl.Typed{typedFun("x", ty, typedNum()), typedRec("f", "x", ty, typedNum(), typedNum()), typedCase(typedFun("x", i, typedNum()), patternAny(funTy(i, i)), typedRec("f", "x", ty, typedNum(), typedNum())), typedCon(impl.NdCon, "N", dataTy("L", ty)), typedLet("y", typedCon(impl.NdCon, "N", dataTy("L", ty)), typedNum()),
		typedLet("n", typedCon(impl.NdCon, "N", dataTy("L", varTy(9))), typedCase(typedName("n", dataTy("L", ty), ty), patternAny(dataTy("L", ty)), typedNum()), 9), typedLet("f", typedFun("y", varTy(9), typedNum()), typedLet("g", typedName("f", funTy(ty, i), ty), typedNum()), 9),
		typedFun("x", ty, typedCase(x, patternAny(ty), typedNum())), typedFun("x", ty, typedCase(x, patternName("y", ty), typedNum())), typedCase(typedCon(impl.NdCon, "N", dataTy("L", ty)), typedCon(impl.PtCon, "N", dataTy("L", ty)), typedNum()), typedCase(typedCon(impl.NdCon, "N", dataTy("L", ty)), typedCon(impl.PtCon, "C", dataTy("L", ty), patternAny(ty), patternAny(dataTy("L", ty))), typedNum()),
		typedFun("x", ty, typedCase(typedNum(), patternAny(i), x)), typedFun("f", funTy(i, ty), typedApp(typedName("f", funTy(i, ty)), typedNum())), typedFun("x", ty, impl.Typed{Op: impl.NdIf, Ty: ty, Kids: []impl.Typed{typedNum(), x, x}}), typedLet("r", typedRec("f", "y", i, typedApp(typedName("f", funTy(i, ty)), typedNum()), typedNum()), typedNum())}
}

func TestTypesThatAreNotOk(t *testing.T) {
	for _, ty := range []impl.Ty{intTy(), varTy(3), varTy(math.MaxInt), dataTy("U"), dataTy("Q", intTy(), dataTy("x y")), {Op: impl.TyData, S: "L", Kids: []impl.Ty{}}, funTy(varTy(1), dataTy("L"))} {
		for _, typed := range withType(ty) {
			wantChecked(t, typed, true)
		}
	}
	for _, wrong := range wrongTys() {
		for _, ty := range about(wrong)[:4] {
			for _, typed := range withType(ty) {
				wantChecked(t, typed, false)
			}
		}
	}
}

func TestSizesOfCheckedTypes(t *testing.T) {
	for i := range withType(intTy()) {
		met := map[bool]int{}
		for _, size := range []int{90, 97, 98, 99, 100, 101, 194, 195, 196, 197, 198, 199, 200, 201} {
			for _, ty := range []impl.Ty{sizedTy(size), flat(size, varTy(2)), nested(size, varTy(2))} {
				typed := withType(ty)[i]
				want := true
				for _, ty := range typesWithin(&typed) {
					want = want && sizeBy(*ty) <= tyMost
				}
				wantChecked(t, typed, want)
				wantChecked(t, typedLet("y", typed, typedNum()), want)
				met[want]++
			}
		}
		if met[true] < 9 || met[false] < 3 { // some trees have the type twice in one
			t.Errorf("tree %d is checked and not %v times", i, met)
		}
	}
	// A function of itself may be of a type that is too large, as long as no node is.
	half := sizedTy(150)
	large := typedRec("f", "x", half, typedRec("g", "y", intTy(), typedApp(typedName("g", funTy(intTy(), half)), typedNum()), typedApp(typedName("g", funTy(intTy(), half)), typedNum())), typedNum())
	wantChecked(t, large, true)
	large.Kids[1] = typedLet("q", typedName("f", funTy(half, half)), typedNum())
	wantChecked(t, large, false)
}

func TestDatasThatAreNotRightCheckNothing(t *testing.T) {
	one := typedNum()
	for text, code := range map[string]int{"data A = X | X;": impl.DtTwice, "data A = X; data A = Y;": impl.DtTwice, "data A = X; data B = X;": impl.DtTwice, "data A = X B;": impl.DtName, "data A = X (Int -> A -> Q);": impl.DtName, "data A a = X A;": impl.DtMany, "data A = X (A Int);": impl.DtMany, "data A = X Int A | Y A;": impl.DtDone} {
		datas := datasOf(text)
		if got := impl.CheckDatas(datas); got != code {
			t.Errorf("CheckDatas of %s is %d", text, got)
		}
		for _, list := range [][]impl.Data{datas, append(datasOf(someData), datas...), append(slices.Clone(datas), datasOf(someData)...)} {
			if got := impl.CheckTyped(list, one); got != (code == impl.DtDone) {
				t.Errorf("behind %s a number is checked: %v", text, got)
			}
		}
	}
	var many []impl.Data
	for i := range consMost + 1 {
		many = append(many, oneData("D"+letters(i), 0, oneCon("C"+letters(i))))
	}
	if impl.CheckTyped(many, one) || !impl.CheckTyped(many[1:], one) {
		t.Error("with more cons than there may be a number is checked, or not with as many")
	}
	// Datas that are right, though no program has such ones.
	for _, c := range []struct {
		data  impl.Data
		typed impl.Typed
		want  bool
	}{
		{oneData("A", -1, oneCon("X")), typedCon(impl.NdCon, "X", dataTy("A")), false},
		{oneData("A", math.MaxInt, oneCon("X")), typedCon(impl.NdCon, "X", dataTy("A")), false},
		{oneData("A", math.MaxInt, oneCon("X")), typedCon(impl.NdCon, "X", dataTy("A", intTy())), false},
		{oneData("A", math.MinInt, oneCon("X")), typedCon(impl.NdCon, "X", dataTy("A", intTy())), false},
		{oneData("", 0, oneCon("X")), typedCon(impl.NdCon, "X", dataTy("")), false},
		{oneData("Int", 0, oneCon("X")), typedCon(impl.NdCon, "X", dataTy("Int")), true},
		{oneData("a", 1, oneCon("")), typedCon(impl.NdCon, "", dataTy("a", intTy())), true},
		{oneData("A", 1, oneCon("X", varTy(1), varTy(0))), typedCon(impl.NdCon, "X", dataTy("A", intTy()), typedNum(), typedNum()), false},
		{oneData("A", 1, oneCon("X", varTy(1))), typedFun("w", varTy(1), typedCon(impl.NdCon, "X", dataTy("A", intTy()), typedName("w", varTy(1)))), true},
		{oneData("A", 0, oneCon("X", impl.Ty{})), typedCon(impl.NdCon, "X", dataTy("A"), typedNum()), false},
		{oneData("A", 0, oneCon("X", impl.Ty{Op: impl.TyInt, N: 1})), typedCon(impl.NdCon, "X", dataTy("A"), typedNum()), false},
		{oneData("A", 0, oneCon("X", impl.Ty{Op: impl.TyInt, Kids: []impl.Ty{intTy()}})), typedCon(impl.NdCon, "X", dataTy("A"), typedNum()), false},
		{oneData("A", 1, oneCon("X", impl.Ty{Op: impl.TyVar, S: "s", Kids: slices.Repeat([]impl.Ty{intTy()}, 2*tyMost)})), typedCon(impl.NdCon, "X", dataTy("A", intTy()), typedNum()), true},
		{oneData("A", 199, oneCon("X")), typedCon(impl.NdCon, "X", flatA(tyMost)), true},
		{oneData("A", 200, oneCon("X")), typedCon(impl.NdCon, "X", flatA(tyMost+1)), false},
	} {
		list := []impl.Data{c.data}
		if got := impl.CheckTyped(list, c.typed); got != c.want || checkBy(list) != impl.DtDone {
			t.Errorf("with %s %s is checked: %v, not %v", short(toldDatas(list)), short(toldTyped(c.typed)), got, c.want)
		}
	}
}

// flatA is a data A of that size.
func flatA(size int) impl.Ty {
	ty := flat(size, intTy())
	ty.S = "A"
	return ty
}

// With other datas what was found may be checked no more.
func TestOtherDatas(t *testing.T) {
	list := "data L a = N | C a (L a); data P a b = P a b;"
	p, _ := impl.Parse(list + "case C (P 1 2) N of { N -> N; C (P x _) t -> C x N }")
	found, _ := impl.Infer(p)
	for text, want := range map[string]bool{list: true, list + "data U = U;": true, "data P x y = P x y | R; data L x = C x (L x) | N;": true, "": false, "data L a = N | C a (L a);": false, "data L a = N | C a (L a); data P a b = R a b;": false, "data L a = N | C a (L a); data P a b = P b a;": true, "data L a = N | C a (L a); data P a b = P a Int;": true, "data L a = N | C a (L a); data P a b = P a a b;": false,
		"data L a = N | C a (L a); data P a b = P a;": false, "data L a b = N | C a (L a b); data P a b = P a b;": false, "data M a = N | C a (M a); data P a b = P a b;": false, "data L a = N | C (L a) a; data P a b = P a b;": false, "data L a = N | C a (L Int); data P a b = P a b;": false, "data L a = C a (L a); data P a b = P a b; data Q a = N;": false, "data L a = N | C a (L a) | P a a;": false} {
		datas := datasOf(text)
		if got := impl.CheckTyped(datas, found); got != want || checkedBy(datas, found) != want {
			t.Errorf("with %q it is checked: %v, not %v", text, got, want)
		}
	}
}
