package tests

import (
	"slices"
	"strconv"
	"testing"

	"loop.example/g00323/impl"
)

func TestNumbersOfChapter7(t *testing.T) {
	for i, got := range []int{impl.IfDone, impl.IfTidy, impl.IfData, impl.IfName, impl.IfType, impl.IfMany} {
		if got != i {
			t.Errorf("the code of number %d is %d", i, got)
		}
	}
	if impl.MaxVars != varsMost {
		t.Errorf("MaxVars is %d, not %d", impl.MaxVars, varsMost)
	}
}

const someData = "data L a = N | C a (L a); data P a b = P a b; data U = U; data B a = B a; "

// progOf reads a program behind the datas L, P, U and B.
func progOf(src string) impl.Prog {
	p, bad := impl.Parse(someData + src)
	if bad != -1 {
		panic("no program: " + src)
	}
	return p
}

// withDatas is a tree behind the same datas.
func withDatas(n impl.Node) impl.Prog { return impl.Prog{Datas: datasOf(someData), Main: n} }

// holdInfer holds the answer against the second telling; what is found is checked by chapter 8's words, is for all by chapter 7's, and is the tree with types.
func holdInfer(t *testing.T, p impl.Prog) int {
	t.Helper()
	got, how := impl.Infer(p)
	want, wantHow := inferBy(p)
	if how != wantHow || toldTyped(got) != toldTyped(want) {
		t.Fatalf("Infer(%s) is %d and\n%s, not %d and\n%s", short(toldProg(p)), how, toldTyped(got), wantHow, toldTyped(want))
	}
	if how != impl.IfDone {
		if toldTyped(got) != toldTyped(impl.Typed{}) {
			t.Fatalf("Infer(%s) is %d, and %s is told", short(toldProg(p)), how, toldTyped(got))
		}
		return how
	}
	if why := (checker{datas: p.Datas}).wrong(got, nil); why != "" {
		t.Fatalf("Infer(%s): %s", short(toldProg(p)), why)
	}
	if why := freeSomewhere(got); why != "" {
		t.Fatalf("Infer(%s): %s", short(toldProg(p)), why)
	}
	if told(impl.Erase(got)) != told(p.Main) {
		t.Fatalf("Erase of Infer(%s) is %s", short(toldProg(p)), told(impl.Erase(got)))
	}
	return how
}

// freeSomewhere is promise 7: what is for all in a node is in the types of its first kid, and in none of what is not within that.
func freeSomewhere(t impl.Typed) string {
	for _, part := range typedIn(&t) {
		if len(part.Vars) == 0 {
			continue
		}
		vars, first := part.Vars, part.Kids[0]
		kept := *part
		part.Kids = slices.Clone(part.Kids)
		part.Kids[0], part.Inst = impl.Typed{}, nil
		outside := varsWithin(t)
		*part = kept
		for _, n := range vars {
			inArgument := part.Op == impl.NdRec && slices.Contains(freeVarsBy(part.Inst[0]), n)
			if varsWithin(first)[n] == 0 && !inArgument {
				return "var " + strconv.Itoa(n) + " is for all, and not in " + shown(first)
			}
			if outside[n] > 0 {
				return "var " + strconv.Itoa(n) + " is for all, and free outside of " + shown(first)
			}
		}
	}
	return ""
}

func wantFound(t *testing.T, src, want string) {
	t.Helper()
	p := progOf(src)
	got, how := impl.Infer(p)
	if how != impl.IfDone || shown(got) != want {
		t.Errorf("Infer(%s) is %d and\n%s, not\n%s", src, how, shownOrNone(got), want)
	}
	holdInfer(t, p)
}

func shownOrNone(t impl.Typed) string {
	if t.Op == 0 {
		return "none"
	}
	return shown(t)
}

// wantCode does not ask the second telling, which takes its time where there are many vars.
func wantCode(t *testing.T, p impl.Prog, want int) {
	t.Helper()
	if got, how := impl.Infer(p); how != want || want != impl.IfDone && toldTyped(got) != toldTyped(impl.Typed{}) {
		t.Errorf("Infer of %s is %d, not %d", short(told(p.Main)), how, want)
	}
}

func wantHow(t *testing.T, p impl.Prog, want int) {
	t.Helper()
	wantCode(t, p, want)
	if !t.Failed() {
		holdInfer(t, p)
	}
}

func wantHowOf(t *testing.T, want int, list ...string) {
	t.Helper()
	for _, src := range list {
		wantHow(t, progOf(src), want)
	}
}

func TestTypesOfEachKindOfNode(t *testing.T) {
	wantFound(t, "3", "3: Int")
	wantFound(t, "fun x -> x", "fun x: (0 -> 0) (x: 0)")
	wantFound(t, "fun x -> 1", "fun x: (0 -> Int) (1: Int)")
	wantFound(t, "fun x -> fun y -> x", "fun x: (0 -> (1 -> 0)) (fun y: (1 -> 0) (x: 0))")
	wantFound(t, "fun x -> fun x -> x", "fun x: (0 -> (1 -> 1)) (fun x: (1 -> 1) (x: 1))")
	wantFound(t, "(fun x -> x) 3", "app: Int (fun x: (Int -> Int) (x: Int); 3: Int)")
	wantFound(t, "fun f -> f 1", "fun f: ((Int -> 1) -> 1) (app: 1 (f: (Int -> 1); 1: Int))")
	wantFound(t, "let x = 1 in x", "let x: Int (1: Int; x: Int)")
	wantFound(t, "let x = 1 in U", "let x: U (1: Int; U: U)")
	wantFound(t, "let i = fun x -> x in i", "let i: (1 -> 1) [0] (fun x: (0 -> 0) (x: 0); i: (1 -> 1) {1})")
	wantFound(t, "let k = fun x -> fun y -> x in k 1",
		"let k: (3 -> Int) [0, 1] (fun x: (0 -> (1 -> 0)) (fun y: (1 -> 0) (x: 0)); app: (3 -> Int) (k: (Int -> (3 -> Int)) {Int, 3}; 1: Int))")
	wantFound(t, "rec f x = x in f", "rec f x: (2 -> 2) {1} [1] (x: 1; f: (2 -> 2) {2})")
	wantFound(t, "rec f x = 1 in U", "rec f x: U {0} [0] (1: Int; U: U)")
	wantFound(t, "rec f x = x + 1 in f", "rec f x: (Int -> Int) {Int} (+: Int (x: Int; 1: Int); f: (Int -> Int))")
	wantFound(t, "rec f x = f x in f", "rec f x: (3 -> 4) {0} [0, 2] (app: 2 (f: (0 -> 2); x: 0); f: (3 -> 4) {3, 4})")
	wantFound(t, "rec f f = f in f", "rec f f: (2 -> 2) {1} [1] (f: 1; f: (2 -> 2) {2})")
	wantFound(t, "if 1 then 2 else 3", "if: Int (1: Int; 2: Int; 3: Int)")
	wantFound(t, "fun x -> fun y -> fun z -> if x then y else z",
		"fun x: (Int -> (2 -> (2 -> 2))) (fun y: (2 -> (2 -> 2)) (fun z: (2 -> 2) (if: 2 (x: Int; y: 2; z: 2))))")
	wantFound(t, "N", "N: (L 0) {0}")
	wantFound(t, "U", "U: U")
	wantFound(t, "C 1 N", "C: (L Int) {Int} (1: Int; N: (L Int) {Int})")
	wantFound(t, "P U (fun x -> x)", "P: (P U (2 -> 2)) {U, (2 -> 2)} (U: U; fun x: (2 -> 2) (x: 2))")
	wantFound(t, "put 3", "put: Int (3: Int)")
	wantFound(t, "fun x -> put x", "fun x: (Int -> Int) (put: Int (x: Int))")
	for _, sign := range []string{"+", "-", "*", "<", "=="} {
		wantFound(t, "1 "+sign+" 2", sign+": Int (1: Int; 2: Int)")
		wantFound(t, "fun x -> fun y -> x "+sign+" y", "fun x: (Int -> (Int -> Int)) (fun y: (Int -> Int) ("+sign+": Int (x: Int; y: Int)))")
	}
}

func TestTypesOfEachKindOfPattern(t *testing.T) {
	wantFound(t, "case 1 of { _ -> 2 }", "case: Int (1: Int; alt: Int (_: Int; 2: Int))")
	wantFound(t, "case 1 of { 0 -> U; x -> U }", "case: U (1: Int; alt: U (?0: Int; U: U); alt: U (?x: Int; U: U))")
	wantFound(t, "fun x -> case x of { _ -> 1 }", "fun x: (0 -> Int) (case: Int (x: 0; alt: Int (_: 0; 1: Int)))")
	wantFound(t, "fun x -> case x of { y -> y }", "fun x: (1 -> 1) (case: 1 (x: 1; alt: 1 (?y: 1; y: 1)))")
	wantFound(t, "fun x -> case x of { 7 -> x }", "fun x: (Int -> Int) (case: Int (x: Int; alt: Int (?7: Int; x: Int)))")
	wantFound(t, "fun x -> case x of { U -> x }", "fun x: (U -> U) (case: U (x: U; alt: U (?U: U; x: U)))")
	wantFound(t, "case N of { N -> 1 }", "case: Int (N: (L 0) {0}; alt: Int (?N: (L 0) {0}; 1: Int))")
	wantFound(t, "fun l -> case l of { C x _ -> x }",
		"fun l: ((L 1) -> 1) (case: 1 (l: (L 1); alt: 1 (?C: (L 1) {1} (?x: 1; _: (L 1)); x: 1)))")
	wantFound(t, "fun l -> case l of { N -> 0; C (P x U) (C _ y) -> x }",
		"fun l: ((L (P Int U)) -> Int) (case: Int (l: (L (P Int U)); alt: Int (?N: (L (P Int U)) {(P Int U)}; 0: Int); "+
			"alt: Int (?C: (L (P Int U)) {(P Int U)} (?P: (P Int U) {Int, U} (?x: Int; ?U: U); ?C: (L (P Int U)) {(P Int U)} (_: (P Int U); ?y: (L (P Int U)))); x: Int)))")
	wantFound(t, "fun p -> case p of { P x y -> P y x }",
		"fun p: ((P 7 6) -> (P 6 7)) (case: (P 6 7) (p: (P 7 6); alt: (P 6 7) (?P: (P 7 6) {7, 6} (?x: 7; ?y: 6); P: (P 6 7) {6, 7} (y: 6; x: 7))))")
}

// New vars are told by their numbers: a kid's behind those of the kids ahead of it; of a node ahead of its kids', or behind.
func TestNewVarsInOrder(t *testing.T) {
	wantFound(t, "fun a -> fun b -> fun c -> 1", "fun a: (0 -> (1 -> (2 -> Int))) (fun b: (1 -> (2 -> Int)) (fun c: (2 -> Int) (1: Int)))")
	wantFound(t, "P (fun x -> x) (fun y -> y)", "P: (P (2 -> 2) (3 -> 3)) {(2 -> 2), (3 -> 3)} (fun x: (2 -> 2) (x: 2); fun y: (3 -> 3) (y: 3))")
	wantFound(t, "P N N", "P: (P (L 2) (L 3)) {(L 2), (L 3)} (N: (L 2) {2}; N: (L 3) {3})")
	// The one of an application stands behind those of both of its kids.
	wantFound(t, "fun f -> f (fun x -> x)", "fun f: (((1 -> 1) -> 2) -> 2) (app: 2 (f: ((1 -> 1) -> 2); fun x: (1 -> 1) (x: 1)))")
	wantFound(t, "(fun x -> fun y -> fun z -> 1) (fun u -> u)",
		"app: (1 -> (2 -> Int)) (fun x: ((3 -> 3) -> (1 -> (2 -> Int))) (fun y: (1 -> (2 -> Int)) (fun z: (2 -> Int) (1: Int))); fun u: (3 -> 3) (u: 3))")
	wantFound(t, "fun f -> fun x -> f x x", "fun f: ((1 -> (1 -> 3)) -> (1 -> 3)) (fun x: (1 -> 3) (app: 3 (app: (1 -> 3) (f: (1 -> (1 -> 3)); x: 1); x: 1)))")
	// The one of a case stands behind those of its first kid, and ahead of its alternatives.
	wantFound(t, "fun f -> case (fun x -> x) of { _ -> f N }",
		"fun f: (((L 4) -> 2) -> 2) (case: 2 (fun x: (1 -> 1) (x: 1); alt: 2 (_: (1 -> 1); app: 2 (f: ((L 4) -> 2); N: (L 4) {4}))))")
	wantFound(t, "case N of { C _ (C _ _) -> fun x -> fun y -> x; _ -> fun z -> fun u -> z }",
		"case: (7 -> (8 -> 7)) (N: (L 0) {0}; alt: (7 -> (8 -> 7)) (?C: (L 0) {0} (_: 0; ?C: (L 0) {0} (_: 0; _: (L 0))); fun x: (7 -> (8 -> 7)) (fun y: (8 -> 7) (x: 7))); "+
			"alt: (7 -> (8 -> 7)) (_: (L 0); fun z: (7 -> (8 -> 7)) (fun u: (8 -> 7) (z: 7))))")
	// Those of a con stand ahead of its kids'; those of a function of itself, too, the argument's first.
	wantFound(t, "C (fun x -> 1) N", "C: (L (1 -> Int)) {(1 -> Int)} (fun x: (1 -> Int) (1: Int); N: (L (1 -> Int)) {(1 -> Int)})")
	wantFound(t, "rec f x = fun y -> N in f", "rec f x: (4 -> (5 -> (L 6))) {0} [0, 2, 3] (fun y: (2 -> (L 3)) (N: (L 3) {3}); f: (4 -> (5 -> (L 6))) {4, 5, 6})")
	wantFound(t, "rec f x = f N in fun y -> y", "rec f x: (4 -> 4) {(L 2)} [2, 3] (app: 3 (f: ((L 2) -> 3); N: (L 2) {2}); fun y: (4 -> 4) (y: 4))")
	wantFound(t, "let z = (fun x -> x) 1 in fun y -> y", "let z: (2 -> 2) (app: Int (fun x: (Int -> Int) (x: Int); 1: Int); fun y: (2 -> 2) (y: 2))")
	// Those of a name are as many as its vars, which are told ascending, wherever they are in its type.
	wantFound(t, "let s = fun x -> fun y -> P y x in s",
		"let s: (5 -> (4 -> (P 4 5))) [2, 3] (fun x: (3 -> (2 -> (P 2 3))) (fun y: (2 -> (P 2 3)) (P: (P 2 3) {2, 3} (y: 2; x: 3))); s: (5 -> (4 -> (P 4 5))) {4, 5})")
	wantFound(t, "let p = P N N in P p p",
		"let p: (P (P (L 6) (L 7)) (P (L 8) (L 9))) [2, 3] (P: (P (L 2) (L 3)) {(L 2), (L 3)} (N: (L 2) {2}; N: (L 3) {3}); "+
			"P: (P (P (L 6) (L 7)) (P (L 8) (L 9))) {(P (L 6) (L 7)), (P (L 8) (L 9))} (p: (P (L 6) (L 7)) {6, 7}; p: (P (L 8) (L 9)) {8, 9}))")
	wantFound(t, "if 1 then fun x -> x else fun y -> y", "if: (1 -> 1) (1: Int; fun x: (1 -> 1) (x: 1); fun y: (1 -> 1) (y: 1))")
}

// Which one of two vars stands for the other one is told by which is made alike which.
func TestWhichVarStandsForTheOther(t *testing.T) {
	wantFound(t, "fun x -> fun y -> if 1 then x else y", "fun x: (1 -> (1 -> 1)) (fun y: (1 -> 1) (if: 1 (1: Int; x: 1; y: 1)))")
	wantFound(t, "fun x -> fun y -> if 1 then y else x", "fun x: (0 -> (0 -> 0)) (fun y: (0 -> 0) (if: 0 (1: Int; y: 0; x: 0)))")
	wantFound(t, "fun x -> case x of { _ -> x }", "fun x: (1 -> 1) (case: 1 (x: 1; alt: 1 (_: 1; x: 1)))")
	wantFound(t, "fun x -> case x of { y -> 1 }", "fun x: (0 -> Int) (case: Int (x: 0; alt: Int (?y: 0; 1: Int)))")
	wantFound(t, "rec f x = x in 1", "rec f x: Int {1} [1] (x: 1; 1: Int)")
	wantFound(t, "fun x -> B x", "fun x: (1 -> (B 1)) (B: (B 1) {1} (x: 1))")
	wantFound(t, "fun x -> C x N", "fun x: (1 -> (L 1)) (C: (L 1) {1} (x: 1; N: (L 1) {1}))")
	wantFound(t, "fun b -> case b of { B x -> 1 }", "fun b: ((B 2) -> Int) (case: Int (b: (B 2); alt: Int (?B: (B 2) {2} (?x: 2); 1: Int)))")
	wantFound(t, "fun f -> fun x -> f x", "fun f: ((1 -> 2) -> (1 -> 2)) (fun x: (1 -> 2) (app: 2 (f: (1 -> 2); x: 1)))")
	wantFound(t, "fun x -> (fun y -> y) x", "fun x: (2 -> 2) (app: 2 (fun y: (2 -> 2) (y: 2); x: 2))")
}

func TestWhatIsForAll(t *testing.T) {
	// Types of names about it that are not known yet keep their vars.
	wantFound(t, "fun x -> let y = x in y", "fun x: (0 -> 0) (let y: 0 (x: 0; y: 0))")
	wantFound(t, "fun x -> let y = fun z -> x in y", "fun x: (0 -> (2 -> 0)) (let y: (2 -> 0) [1] (fun z: (1 -> 0) (x: 0); y: (2 -> 0) {2}))")
	wantFound(t, "fun x -> let y = fun z -> z in y", "fun x: (0 -> (2 -> 2)) (let y: (2 -> 2) [1] (fun z: (1 -> 1) (z: 1); y: (2 -> 2) {2}))")
	wantFound(t, "fun x -> rec f y = x in f", "fun x: (2 -> (3 -> 2)) (rec f y: (3 -> 2) {1} [1] (x: 2; f: (3 -> 2) {3}))")
	wantFound(t, "fun x -> rec f y = y in P x f", "fun x: (3 -> (P 3 (5 -> 5))) (rec f y: (P 3 (5 -> 5)) {2} [2] (y: 2; P: (P 3 (5 -> 5)) {3, (5 -> 5)} (x: 3; f: (5 -> 5) {5})))")
	// What a var about it stands for keeps its vars, too, wherever it was found.
	wantFound(t, "fun x -> let w = case x of { P a _ -> a } in w",
		"fun x: ((P 1 3) -> 1) (let w: 1 (case: 1 (x: (P 1 3); alt: 1 (?P: (P 1 3) {1, 3} (?a: 1; _: 3); a: 1)); w: 1))")
	wantFound(t, "fun x -> case x of { P a b -> let y = fun z -> P b z in y }",
		"fun x: ((P 2 7) -> (9 -> (P 7 9))) (case: (9 -> (P 7 9)) (x: (P 2 7); alt: (9 -> (P 7 9)) (?P: (P 2 7) {2, 7} (?a: 2; ?b: 7); "+
			"let y: (9 -> (P 7 9)) [8] (fun z: (8 -> (P 7 8)) (P: (P 7 8) {7, 8} (b: 7; z: 8)); y: (9 -> (P 7 9)) {9}))))")
	wantFound(t, "fun x -> fun y -> let w = if 1 then x else y in w", "fun x: (1 -> (1 -> 1)) (fun y: (1 -> 1) (let w: 1 (if: 1 (1: Int; x: 1; y: 1); w: 1)))")
	// Types of names about it that are known have none.
	wantFound(t, "fun x -> let w = x + 1 in let y = fun z -> x in y",
		"fun x: (Int -> (2 -> Int)) (let w: (2 -> Int) (+: Int (x: Int; 1: Int); let y: (2 -> Int) [1] (fun z: (1 -> Int) (x: Int); y: (2 -> Int) {2})))")
	wantFound(t, "case 1 of { x -> let y = fun z -> x in y }",
		"case: (3 -> Int) (1: Int; alt: (3 -> Int) (?x: Int; let y: (3 -> Int) [2] (fun z: (2 -> Int) (x: Int); y: (3 -> Int) {3})))")
	// What is for all about it is free there no more.
	wantFound(t, "let n = N in let m = n in m", "let n: (L 2) [0] (N: (L 0) {0}; let m: (L 2) [1] (n: (L 1) {1}; m: (L 2) {2}))")
	wantFound(t, "let n = N in let m = C n n in m",
		"let n: (L (L 4)) [0] (N: (L 0) {0}; let m: (L (L 4)) [2] (C: (L (L 2)) {(L 2)} (n: (L 2) {2}; n: (L (L 2)) {(L 2)}); m: (L (L 4)) {4}))")
	// A part of a type may be for all, and another one not.
	wantFound(t, "fun x -> let f = fun y -> P x y in let g = f in g",
		"fun x: (2 -> (5 -> (P 2 5))) (let f: (5 -> (P 2 5)) [3] (fun y: (3 -> (P 2 3)) (P: (P 2 3) {2, 3} (x: 2; y: 3)); "+
			"let g: (5 -> (P 2 5)) [4] (f: (4 -> (P 2 4)) {4}; g: (5 -> (P 2 5)) {5})))")
	// A name that is not for all gets its type from what comes behind.
	wantFound(t, "fun x -> let y = x in y + 1", "fun x: (Int -> Int) (let y: Int (x: Int; +: Int (y: Int; 1: Int)))")
	wantFound(t, "fun x -> let y = fun z -> x in x + 1",
		"fun x: (Int -> Int) (let y: Int [1] (fun z: (1 -> Int) (x: Int); +: Int (x: Int; 1: Int)))")
	wantFound(t, "fun x -> let y = B x in case y of { B 1 -> 2 }",
		"fun x: (Int -> Int) (let y: Int (B: (B Int) {Int} (x: Int); case: Int (y: (B Int); alt: Int (?B: (B Int) {Int} (?1: Int); 2: Int))))")
	// Within its first kid a function of itself is of one type, behind that for all.
	wantFound(t, "rec f x = x in P (f 1) (f U)",
		"rec f x: (P Int U) {1} [1] (x: 1; P: (P Int U) {Int, U} (app: Int (f: (Int -> Int) {Int}; 1: Int); app: U (f: (U -> U) {U}; U: U)))")
	wantHowOf(t, impl.IfDone, "let f = fun x -> x in P (f 1) (f U)", "let f = (fun x -> x) (fun x -> x) in P (f 1) (f U)", "let n = N in P (C 1 n) (C U n)", "fun x -> let f = fun y -> P x y in P (f 1) (f U)",
		"rec f x = N in P (C 1 (f U)) (C U (f 1))", "rec m l = case l of { N -> 0; C a t -> 1 + m t } in m (C 1 N) + m (C U N)", "let f = fun x -> let g = fun y -> P x y in P (g 1) (g U) in P (f 1) (f U)")
	wantHowOf(t, impl.IfType, "fun f -> P (f 1) (f U)", "(fun f -> P (f 1) (f U)) (fun x -> x)", "fun x -> let f = x in P (f 1) (f U)", "case (fun x -> x) of { f -> P (f 1) (f U) }", "rec f x = P (f 1) (f U) in 1", "rec f x = P (x 1) (x U) in 1",
		"fun x -> let f = fun y -> x in P (f 1 + 1) (case f 1 of { U -> 1 })", "fun x -> rec f y = x in P (f 1 + 1) (case f 1 of { U -> 1 })", "fun p -> case p of { P a b -> let c = a in P (c + 1) (case c of { U -> 1 }) }", "fun n -> let m = n in P (C 1 m) (C U m)")
}

func TestWhichNameIsMeant(t *testing.T) {
	wantFound(t, "fun x -> let x = U in x", "fun x: (0 -> U) (let x: U (U: U; x: U))")
	wantFound(t, "let x = 1 in let x = P x x in x", "let x: (P Int Int) (1: Int; let x: (P Int Int) (P: (P Int Int) {Int, Int} (x: Int; x: Int); x: (P Int Int)))")
	wantFound(t, "fun x -> case U of { x -> x }", "fun x: (0 -> U) (case: U (U: U; alt: U (?x: U; x: U)))")
	wantFound(t, "let f = U in rec f x = 1 in f 1", "let f: Int (U: U; rec f x: Int {0} [0] (1: Int; app: Int (f: (Int -> Int) {Int}; 1: Int)))")
	wantFound(t, "let x = U in rec f x = x + 1 in x", "let x: U (U: U; rec f x: U {Int} (+: Int (x: Int; 1: Int); x: U))")
	wantFound(t, "let x = U in P (let x = 1 in x) x", "let x: (P Int U) (U: U; P: (P Int U) {Int, U} (let x: Int (1: Int; x: Int); x: U))")
	wantFound(t, "let x = U in P (case 1 of { x -> x }) (let y = 1 in x)",
		"let x: (P Int U) (U: U; P: (P Int U) {Int, U} (case: Int (1: Int; alt: Int (?x: Int; x: Int)); let y: U (1: Int; x: U)))")
	wantFound(t, "fun x -> case 1 of { x -> 2; _ -> x }", "fun x: (Int -> Int) (case: Int (1: Int; alt: Int (?x: Int; 2: Int); alt: Int (_: Int; x: Int)))")
	wantHowOf(t, impl.IfName, "x", "let x = x in 1", "let x = 1 in y", "rec f x = 1 in x", "rec f x = g in 1", "(fun x -> x) x", "P (fun x -> x) x", "case x of { x -> 1 }", "case 1 of { x -> 1; _ -> x }", "case 1 of { x -> x; y -> x }", "(case 1 of { x -> x }) + x",
		"(let x = 1 in x) + x", "(rec f x = 1 in f 1) + f", "if 1 then fun x -> x else x", "fun xx -> x", "fun x -> xx", "let n = 1 in N n", "fun x -> X")
}

func TestNamesThatNothingBindsWhereverTheyAre(t *testing.T) {
	wantHowOf(t, impl.IfName, "q", "fun x -> q", "q 1", "1 + q", "(fun x -> x) q", "let x = q in 1", "let x = 1 in q", "rec f x = q in 1", "rec f x = 1 in q", "if q then 1 else 2", "if 1 then q else 2", "if 1 then 2 else q", "case q of { _ -> 1 }", "case 1 of { _ -> q }", "case 1 of { _ -> 1; _ -> q }",
		"q + 1", "1 + q", "q - 1", "1 * q", "q < 1", "1 == q", "put q", "B q", "P q 1", "P 1 q")
}

func TestConsThatAreNone(t *testing.T) {
	wantHowOf(t, impl.IfName, "Q", "Q 1", "L", "A", "let x = Q in 1", "case 1 of { Q -> 1 }", "case 1 of { Q 1 -> 1 }", "case B 1 of { B Q -> 1 }", "case N of { N -> 1; L -> 2 }", "Nn", "case N of { Nn -> 1 }")
	// It has other than its kids.
	wantHowOf(t, impl.IfName, "U 1", "N N", "B", "B 1 2", "P", "P 1", "P 1 2 3", "C 1", "C", "C 1 N N", "C N", "case U of { U 1 -> 1 }", "case U of { U _ -> 1 }", "case B 1 of { B -> 1 }", "case B 1 of { B x y -> 1 }", "case P 1 1 of { P _ -> 1 }", "case P 1 1 of { P -> 1 }", "case P 1 1 of { P _ _ _ -> 1 }",
		"case N of { C _ -> 1 }", "case N of { C (N N) _ -> 1 }", "case N of { C _ (C _) -> 1 }")
	for _, n := range []impl.Node{anApp(aCon("B"), aNum(1)), anApp(aCon("P", aNum(1)), aNum(1)), anApp(aCon("P"), aNum(1), aNum(2))} {
		wantHow(t, withDatas(n), impl.IfName)
	}
	wantHow(t, withDatas(anApp(aCon("U"), aNum(1))), impl.IfType)
	wantHow(t, withDatas(anApp(aCon("N"), aNum(1))), impl.IfType)
	wantHow(t, onlyMain(aCon("U")), impl.IfName)
}

func TestPatternsThatBindANameTwice(t *testing.T) {
	wantHowOf(t, impl.IfName, "case P 1 2 of { P x x -> 1 }", "case P 1 2 of { P x x -> x }", "case P 1 (P 1 1) of { P x (P y x) -> 1 }", "case P 1 (P 1 1) of { P x (P x y) -> 1 }", "case P (P 1 2) (B 3) of { P (P x y) (B y) -> 1 }", "case N of { C x (C _ x) -> 1 }", "case N of { N -> 1; C x x -> 1 }", "fun x -> case x of { P x x -> 1 }",
		"case P 1 2 of { P _ _ -> 1; P x x -> 1 }")
	wantHowOf(t, impl.IfDone, "fun x -> case x of { P x y -> x }", "case P 1 2 of { P x y -> case P 3 4 of { P x y -> x } }", "case P 1 2 of { P x _ -> x; P _ x -> x }", "case P 1 2 of { P _ _ -> 1 }", "case P 1 (P 2 3) of { P x (P y z) -> x + y + z }", "case 1 of { x -> case x of { x -> x } }", "rec x x = x in 1")
}

func TestTypesThatAreNotMadeAlikeInNodes(t *testing.T) {
	f := "(fun x -> x)"
	wantHowOf(t, impl.IfType, "1 2", f+" + 1", "1 + "+f, f+" - 1", "1 - U", "U * 1", "1 * N", "N < 1", "1 < U", "U == U", "1 == "+f, "put U", "put "+f, "if U then 1 else 2", "if "+f+" then 1 else 2", "if 1 then 2 else U", "if 1 then U else 2", "if 1 then "+f+" else 2")
	wantHowOf(t, impl.IfType, "case 1 of { U -> 1 }", "case U of { 1 -> 1 }", "case 1 of { _ -> 1; U -> 1 }", "case 1 of { 1 -> 1; 2 -> U }", "case N of { B _ -> 1 }", "case B 1 of { B U -> 1 }", "case B 1 of { B x -> x; _ -> U }", "case N of { N -> 1; 2 -> 1 }", "case C 1 N of { C U _ -> 1 }", "case N of { C 1 (C U _) -> 1 }", "case "+f+" of { 1 -> 1 }")
	wantHowOf(t, impl.IfType, "C 1 2", "C 1 (C U N)", "C 1 U", "C N (C 1 N)", "fun x -> x x", "(fun x -> x x) 1", "fun x -> C x x", "rec f x = f in f", "rec f x = f f in 1", "rec f x = x x in 1", "rec f x = x + 1 in f U", "rec f x = if x then 1 else f U in 1", "let f = fun x -> x + 1 in f U", "fun x -> x + (x 1)", "fun x -> case x of { 1 -> x 1 }",
		"fun f -> f 1 + f U", "(fun x -> fun y -> x + y) 1 U", "1 (fun x -> x)", "let y = 1 in y 1")
	wantHowOf(t, impl.IfDone, "fun x -> fun y -> x y", "rec f x = f x in 1", "C N (C (C 1 N) N)", "fun x -> C x (C x N)", "case C 1 N of { C 1 _ -> 1; C x (C y _) -> x + y; N -> 0 }", "rec f x = fun y -> if x then f (x - 1) y else y in f 3 U")
}

// A con's types are those of its data, with what its vars stand for.
func TestTypesOfCons(t *testing.T) {
	datas := "data M a b c = M (c -> a) (P b c) Int (M Int a b) | O; data P x y = Q y x; data K = K (K -> K) (P Int K); "
	for src, want := range map[string]string{
		"O":                         "O: (M 0 1 2) {0, 1, 2}",
		"fun x -> M x (Q 1 2) 3 O":  "fun x: ((Int -> 1) -> (M 1 Int Int)) (M: (M 1 Int Int) {1, Int, Int} (x: (Int -> 1); Q: (P Int Int) {Int, Int} (1: Int; 2: Int); 3: Int; O: (M Int 1 Int) {Int, 1, Int}))",
		"K (fun k -> k)":            "",
		"Q K 1":                     "",
		"fun p -> K (fun k -> k) p": "fun p: ((P Int K) -> K) (K: K (fun k: (K -> K) (k: K); p: (P Int K)))",
		"fun m -> case m of { M f (Q c b) i m -> f c }": "fun m: ((M 1 3 4) -> 1) (case: 1 (m: (M 1 3 4); alt: 1 (?M: (M 1 3 4) {1, 3, 4} (?f: (4 -> 1); ?Q: (P 3 4) {3, 4} (?c: 4; ?b: 3); ?i: Int; ?m: (M Int 1 3)); app: 1 (f: (4 -> 1); c: 4))))",
	} {
		p, bad := impl.Parse(datas + src)
		if bad != -1 {
			t.Fatal(src)
		}
		got, how := impl.Infer(p)
		if want == "" && how != impl.IfName || want != "" && (how != impl.IfDone || shown(got) != want) {
			t.Errorf("Infer(%s) is %d and\n%s, not\n%s", src, how, shownOrNone(got), want)
		}
		holdInfer(t, p)
	}
}

func TestProgramsThatAreMadeHaveTypes(t *testing.T) {
	s := steps(71)
	general := 0
	for i := range 4000 {
		p := s.madeProg(1 + i%5)
		if how := holdInfer(t, p); how != impl.IfDone {
			t.Fatalf("Infer(%s) is %d", impl.Write(p), how)
		}
		got, _ := impl.Infer(p)
		for _, part := range typedIn(&got) {
			general += len(part.Vars)
		}
	}
	if general < 4000 {
		t.Errorf("only %d vars are for all", general)
	}
}

// Programs that are made, with some parts swapped: what goes wrong is told by the second telling.
func TestProgramsThatAreSwapped(t *testing.T) {
	s := steps(72)
	met := map[int]int{}
	for i := range 8000 {
		p := s.madeProg(1 + i%5)
		for left := 1 + s.below(3); left > 0; left-- {
			s.swappedNode(&p)
		}
		if impl.Deep(p.Main) <= treeDeep {
			met[holdInfer(t, p)]++
		}
	}
	for _, code := range []int{impl.IfDone, impl.IfName, impl.IfType} {
		if met[code] < 500 {
			t.Errorf("only %d programs are told as %d", met[code], code)
		}
	}
}

func TestTypesOfTurnedPrograms(t *testing.T) {
	s := steps(73)
	met := map[int]int{}
	for i := range 6000 {
		p := s.randomProg(1 + s.below(4))
		if i%2 == 0 {
			p = s.madeProg(1 + s.below(4))
		}
		for left := s.below(3); left > 0; left-- {
			s.turned(&p)
		}
		met[holdInfer(t, p)]++
	}
	for code := impl.IfDone; code <= impl.IfType; code++ {
		if met[code] < 10 {
			t.Errorf("only %d programs are told as %d", met[code], code)
		}
	}
}

// smallNodes are all trees of that many nodes, of few names.
func smallNodes(size int, bySize [][]impl.Node) []impl.Node {
	if size == 1 {
		return []impl.Node{aNum(1), aVar("x"), aVar("f"), aCon("N")}
	}
	var list []impl.Node
	for _, kid := range bySize[size-1] {
		list = append(list, aFun("x", kid), aFun("f", kid))
	}
	for first := 1; first < size-1; first++ {
		for _, a := range bySize[first] {
			for _, b := range bySize[size-1-first] {
				list = append(list, anApp(a, b), aLet("x", a, b), aRec("f", "x", a, b), aCon("C", a, b))
			}
		}
	}
	for first := 1; first < size-3; first++ {
		for _, a := range bySize[first] {
			for _, b := range bySize[size-3-first] {
				list = append(list, caseOf(a, anAlt(varPat("x"), b)))
			}
		}
	}
	return list
}

func TestTypesOfAllSmallTrees(t *testing.T) {
	bySize := make([][]impl.Node, 6)
	datas := datasOf(someData)
	met := map[int]int{}
	for size := 1; size < len(bySize); size++ {
		bySize[size] = smallNodes(size, bySize)
		for _, n := range bySize[size] {
			met[holdInfer(t, impl.Prog{Datas: datas, Main: n})]++
		}
	}
	for _, code := range []int{impl.IfDone, impl.IfName, impl.IfType} {
		if met[code] < 300 {
			t.Errorf("only %d trees are told as %d", met[code], code)
		}
	}
}
