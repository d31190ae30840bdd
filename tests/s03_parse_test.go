package tests

import (
	"slices"
	"strconv"
	"strings"
	"testing"
	"unsafe"

	"loop.example/g00323/impl"
)

func wantProg(t *testing.T, src string, want impl.Prog) {
	t.Helper()
	if got, bad := impl.Parse(src); bad != -1 || toldProg(got) != toldProg(want) {
		t.Errorf("Parse(%q) is\n%s and %d, not\n%s", short(src), toldProg(got), bad, toldProg(want))
	}
}

func wantMain(t *testing.T, src string, want impl.Node) {
	t.Helper()
	wantProg(t, src, onlyMain(want))
}

// wantTypes holds the types of the one con of the one data, with the vars a and b.
func wantTypes(t *testing.T, types string, want ...impl.Ty) {
	t.Helper()
	wantProg(t, "data D a b = C "+types+"; 1", impl.Prog{Datas: []impl.Data{oneData("D", 2, oneCon("C", want...))}, Main: aNum(1)})
}

func wantPattern(t *testing.T, pattern string, want impl.Node) {
	t.Helper()
	wantMain(t, "case 1 of { "+pattern+" -> 2 }", node(impl.NdCase, aNum(1), anAlt(want, aNum(2))))
}

func isZero(p impl.Prog) bool { return toldProg(p) == toldProg(impl.Prog{}) }

func wantPlace(t *testing.T, src string, place int) {
	t.Helper()
	if got, bad := impl.Parse(src); bad != place || !isZero(got) {
		t.Errorf("Parse(%q), %d bytes, is %d, not %d (zero beside it: %v)", short(src), len(src), bad, place, isZero(got))
	}
}

// wantMisfit marks by ^ the token that does not fit; the mark is not in the text that is parsed.
func wantMisfit(t *testing.T, marked string) {
	t.Helper()
	ahead, behind, found := strings.Cut(marked, "^")
	if !found {
		t.Fatalf("%q has no mark", marked)
	}
	wantPlace(t, ahead+behind, len(ahead))
}

// Ops are told by their numbers, which stand in the document.
func TestTreeConstants(t *testing.T) {
	ops := []int{impl.NdNum, impl.NdVar, impl.NdFun, impl.NdApp, impl.NdLet, impl.NdRec, impl.NdCase, impl.NdAlt, impl.NdIf, impl.NdAdd,
		impl.NdSub, impl.NdMul, impl.NdLess, impl.NdSame, impl.NdCon, impl.NdPut, impl.PtAny, impl.PtVar, impl.PtNum, impl.PtCon}
	for i, op := range ops {
		if op != i+1 {
			t.Errorf("op %d is %d", i+1, op)
		}
	}
	if impl.TyInt != 1 || impl.TyVar != 2 || impl.TyFun != 3 || impl.TyData != 4 || impl.MaxTree != treeDeep {
		t.Error("a constant is not as the document has it")
	}
}

func TestAtoms(t *testing.T) {
	wantMain(t, "0", aNum(0))
	wantMain(t, "1073741823", aNum(greatest))
	wantMain(t, "x", aVar("x"))
	wantMain(t, "abcdefgh", aVar("abcdefgh"))
	wantMain(t, "Nil", aCon("Nil"))
	wantMain(t, "(x)", aVar("x"))
	wantMain(t, "(((7)))", aNum(7))
	wantMain(t, " \n( Nil )\n", aCon("Nil"))
}

func TestApplications(t *testing.T) {
	f, x, y := aVar("f"), aVar("x"), aVar("y")
	wantMain(t, "f x", anApp(f, x))
	wantMain(t, "f x y", node(impl.NdApp, node(impl.NdApp, f, x), y))
	wantMain(t, "f x y 1 C", anApp(f, x, y, aNum(1), aCon("C")))
	wantMain(t, "f (x y)", node(impl.NdApp, f, node(impl.NdApp, x, y)))
	wantMain(t, "(f x) y", anApp(f, x, y))
	wantMain(t, "1 2", anApp(aNum(1), aNum(2)))
	wantMain(t, "(fun x -> x) 1", anApp(aFun("x", x), aNum(1)))
	wantMain(t, "f(x)(y)", anApp(f, x, y))
	wantMain(t, "put x", node(impl.NdPut, x))
	wantMain(t, "put C", node(impl.NdPut, aCon("C")))
	wantMain(t, "put 3", node(impl.NdPut, aNum(3)))
	wantMain(t, "put (f x)", node(impl.NdPut, anApp(f, x)))
	wantMain(t, "(put x) y", anApp(node(impl.NdPut, x), y))
	wantMain(t, "put (put x)", node(impl.NdPut, node(impl.NdPut, x)))
	wantMain(t, "C x", aCon("C", x))
	wantMain(t, "C x 1 y", aCon("C", x, aNum(1), y))
	wantMain(t, "C D", aCon("C", aCon("D")))
	wantMain(t, "C D x", aCon("C", aCon("D"), x))
	wantMain(t, "C (D x)", aCon("C", aCon("D", x)))
	wantMain(t, "(C) x", anApp(aCon("C"), x))
	wantMain(t, "(C x) y", anApp(aCon("C", x), y))
	wantMain(t, "f C x", anApp(f, aCon("C"), x))
	wantMain(t, "f (C x)", anApp(f, aCon("C", x)))
}

func TestSumsAndProducts(t *testing.T) {
	a, b, c := aVar("a"), aVar("b"), aVar("c")
	both := map[string]int{"+": impl.NdAdd, "-": impl.NdSub}
	for s, op := range both {
		wantMain(t, "a "+s+" b", node(op, a, b))
		for r, other := range both {
			wantMain(t, "a "+s+" b "+r+" c", node(other, node(op, a, b), c))
			wantMain(t, "a "+s+" (b "+r+" c)", node(op, a, node(other, b, c)))
		}
		wantMain(t, "a * b "+s+" c", node(op, node(impl.NdMul, a, b), c))
		wantMain(t, "a "+s+" b * c", node(op, a, node(impl.NdMul, b, c)))
		wantMain(t, "(a "+s+" b) * c", node(impl.NdMul, node(op, a, b), c))
		wantMain(t, "a b "+s+" C c", node(op, anApp(a, b), aCon("C", c)))
		wantMain(t, "put a "+s+" put b", node(op, node(impl.NdPut, a), node(impl.NdPut, b)))
		wantMain(t, "C "+s+" D", node(op, aCon("C"), aCon("D")))
	}
	wantMain(t, "a * b", node(impl.NdMul, a, b))
	wantMain(t, "a * b * c", node(impl.NdMul, node(impl.NdMul, a, b), c))
	wantMain(t, "a * (b * c)", node(impl.NdMul, a, node(impl.NdMul, b, c)))
	wantMain(t, "a b * c", node(impl.NdMul, anApp(a, b), c))
	wantMain(t, "a * b c", node(impl.NdMul, a, anApp(b, c)))
	wantMain(t, "C a * put b", node(impl.NdMul, aCon("C", a), node(impl.NdPut, b)))
	wantMain(t, "a*b-c*a+b", node(impl.NdAdd, node(impl.NdSub, node(impl.NdMul, a, b), node(impl.NdMul, c, a)), b))
	wantMain(t, "1-2-3", node(impl.NdSub, node(impl.NdSub, aNum(1), aNum(2)), aNum(3)))
}

func TestComparisons(t *testing.T) {
	a, b, c := aVar("a"), aVar("b"), aVar("c")
	for s, op := range map[string]int{"<": impl.NdLess, "==": impl.NdSame} {
		wantMain(t, "a "+s+" b", node(op, a, b))
		wantMain(t, "a + b "+s+" c - a", node(op, node(impl.NdAdd, a, b), node(impl.NdSub, c, a)))
		wantMain(t, "a * b "+s+" c", node(op, node(impl.NdMul, a, b), c))
		wantMain(t, "a "+s+" b c", node(op, a, anApp(b, c)))
		wantMain(t, "a + (b "+s+" c)", node(impl.NdAdd, a, node(op, b, c)))
		wantMain(t, "(a "+s+" b) "+s+" c", node(op, node(op, a, b), c))
		wantMain(t, "a "+s+" (b "+s+" c)", node(op, a, node(op, b, c)))
		wantMain(t, "let x = a "+s+" b in b "+s+" c", aLet("x", node(op, a, b), node(op, b, c)))
		wantMisfit(t, "a "+s+" b ^< c")
		wantMisfit(t, "a "+s+" b ^== c")
		wantMisfit(t, "a "+s+" ^< c")
		wantMisfit(t, "a "+s+" ^== c")
		wantMisfit(t, "a + b "+s+" b * c ^"+s+" c")
	}
}

func TestExpressions(t *testing.T) {
	x, y, f := aVar("x"), aVar("y"), aVar("f")
	wantMain(t, "fun x -> x", aFun("x", x))
	wantMain(t, "fun x -> fun y -> x y", aFun("x", aFun("y", anApp(x, y))))
	wantMain(t, "fun x -> x + y", aFun("x", node(impl.NdAdd, x, y)))
	wantMain(t, "let x = 1 in x", aLet("x", aNum(1), x))
	wantMain(t, "let x = 1 in let y = 2 in x + y", aLet("x", aNum(1), aLet("y", aNum(2), node(impl.NdAdd, x, y))))
	wantMain(t, "let x = let y = 1 in y in x", aLet("x", aLet("y", aNum(1), y), x))
	wantMain(t, "let x = fun y -> y in x 1", aLet("x", aFun("y", y), anApp(x, aNum(1))))
	wantMain(t, "rec f x = f y in f 1", aRec("f", "x", anApp(f, y), anApp(f, aNum(1))))
	wantMain(t, "rec x x = x in x", aRec("x", "x", x, x))
	wantMain(t, "rec f x = rec g y = 1 in 2 in 3", aRec("f", "x", aRec("g", "y", aNum(1), aNum(2)), aNum(3)))
	wantMain(t, "if x then y else f", node(impl.NdIf, x, y, f))
	wantMain(t, "if if x then 1 else 2 then if y then 3 else 4 else if f then 5 else 6", node(impl.NdIf,
		node(impl.NdIf, x, aNum(1), aNum(2)), node(impl.NdIf, y, aNum(3), aNum(4)), node(impl.NdIf, f, aNum(5), aNum(6))))
	wantMain(t, "if x < 1 then x * 2 else x - 1", node(impl.NdIf,
		node(impl.NdLess, x, aNum(1)), node(impl.NdMul, x, aNum(2)), node(impl.NdSub, x, aNum(1))))
	wantMain(t, "(let x = 1 in x) + (if x then 1 else 2)", node(impl.NdAdd, aLet("x", aNum(1), x), node(impl.NdIf, x, aNum(1), aNum(2))))
	wantMain(t, "f (fun x -> x) (let y = 1 in y)", anApp(f, aFun("x", x), aLet("y", aNum(1), y)))
	wantMain(t, "C (fun x -> x)", aCon("C", aFun("x", x)))
	wantMain(t, "case x of { y -> f }", node(impl.NdCase, x, anAlt(varPat("y"), f)))
	wantMain(t, "case f x of { Nil -> 0; Cons x _ -> x; _ -> y }", node(impl.NdCase, anApp(f, x),
		anAlt(conPat("Nil"), aNum(0)), anAlt(conPat("Cons", varPat("x"), anyPat()), x), anAlt(anyPat(), y)))
	wantMain(t, "case case x of { 1 -> 2 } of { 3 -> case y of { 4 -> 5; 6 -> 7 }; 8 -> fun x -> 9 }", node(impl.NdCase,
		node(impl.NdCase, x, anAlt(numPat(1), aNum(2))),
		anAlt(numPat(3), node(impl.NdCase, y, anAlt(numPat(4), aNum(5)), anAlt(numPat(6), aNum(7)))),
		anAlt(numPat(8), aFun("x", aNum(9)))))
}

func TestPatterns(t *testing.T) {
	wantPattern(t, "_", anyPat())
	wantPattern(t, "x", varPat("x"))
	wantPattern(t, "0", numPat(0))
	wantPattern(t, "1073741823", numPat(greatest))
	wantPattern(t, "C", conPat("C"))
	wantPattern(t, "(_)", anyPat())
	wantPattern(t, "((x))", varPat("x"))
	wantPattern(t, "(C)", conPat("C"))
	wantPattern(t, "C _ x 1 D", conPat("C", anyPat(), varPat("x"), numPat(1), conPat("D")))
	wantPattern(t, "C D x", conPat("C", conPat("D"), varPat("x")))
	wantPattern(t, "C (D x) (_) (E)", conPat("C", conPat("D", varPat("x")), anyPat(), conPat("E")))
	wantPattern(t, "(C (D x (E 2)) y)", conPat("C", conPat("D", varPat("x"), conPat("E", numPat(2))), varPat("y")))
	wantPattern(t, "C x x", conPat("C", varPat("x"), varPat("x")))
}

func TestDatas(t *testing.T) {
	wantProg(t, "data List a = Nil | Cons a (List a); 1", impl.Prog{Datas: []impl.Data{
		oneData("List", 1, oneCon("Nil"), oneCon("Cons", varTy(0), dataTy("List", varTy(0))))}, Main: aNum(1)})
	wantProg(t, "data Bool = No | Yes; No", impl.Prog{Datas: []impl.Data{oneData("Bool", 0, oneCon("No"), oneCon("Yes"))}, Main: aCon("No")})
	wantProg(t, "data U = U; U", impl.Prog{Datas: []impl.Data{oneData("U", 0, oneCon("U"))}, Main: aCon("U")})
	wantProg(t, "data P a b = P a b; data E a b = L a | R b;\ndata N = N Int;x", impl.Prog{Datas: []impl.Data{
		oneData("P", 2, oneCon("P", varTy(0), varTy(1))),
		oneData("E", 2, oneCon("L", varTy(0)), oneCon("R", varTy(1))),
		oneData("N", 0, oneCon("N", intTy()))}, Main: aVar("x")})
	wantProg(t, "data B a = B; 1", impl.Prog{Datas: []impl.Data{oneData("B", 1, oneCon("B"))}, Main: aNum(1)})
	wantProg(t, "data T b a = T a b | T a a | T b; 1", impl.Prog{Datas: []impl.Data{
		oneData("T", 2, oneCon("T", varTy(1), varTy(0)), oneCon("T", varTy(1), varTy(1)), oneCon("T", varTy(0)))}, Main: aNum(1)})
	wantProg(t, "data Q = C; data Q = C; 1", impl.Prog{Datas: []impl.Data{oneData("Q", 0, oneCon("C")), oneData("Q", 0, oneCon("C"))}, Main: aNum(1)})
}

// Of two vars with one name the first place is told.
func TestVarsOfOneName(t *testing.T) {
	wantProg(t, "data Q a a b = C a b; 1", impl.Prog{Datas: []impl.Data{oneData("Q", 3, oneCon("C", varTy(0), varTy(2)))}, Main: aNum(1)})
}

func TestTypes(t *testing.T) {
	a, b, i := varTy(0), varTy(1), intTy()
	wantTypes(t, "")
	wantTypes(t, "a", a)
	wantTypes(t, "b a Int D b", b, a, i, dataTy("D"), b)
	wantTypes(t, "(a)", a)
	wantTypes(t, "((Int))", i)
	wantTypes(t, "(D)", dataTy("D"))
	wantTypes(t, "(D a)", dataTy("D", a))
	wantTypes(t, "(D a Int E (F b))", dataTy("D", a, i, dataTy("E"), dataTy("F", b)))
	wantTypes(t, "D (D D) (D)", dataTy("D"), dataTy("D", dataTy("D")), dataTy("D"))
	wantTypes(t, "(a -> b)", funTy(a, b))
	wantTypes(t, "(a -> b -> Int)", funTy(a, funTy(b, i)))
	wantTypes(t, "((a -> b) -> Int)", funTy(funTy(a, b), i))
	wantTypes(t, "(a -> (b -> Int))", funTy(a, funTy(b, i)))
	wantTypes(t, "(D a -> E b Int -> F)", funTy(dataTy("D", a), funTy(dataTy("E", b, i), dataTy("F"))))
	wantTypes(t, "(D (a -> b) -> a) Int", funTy(dataTy("D", funTy(a, b)), a), i)
	wantTypes(t, "((a -> b) -> (D -> Int) -> (a))", funTy(funTy(a, b), funTy(funTy(dataTy("D"), i), a)))
}

// manyVars is a data with so many vars, the last one of which is used.
func manyVars(n int) string {
	src := "data Q"
	for i := range n {
		src += " " + varName(i)
	}
	return src + " = C " + varName(n-1) + " " + varName(0) + ";"
}

func TestDataOfManyVars(t *testing.T) {
	for _, n := range []int{1, 25, 26} {
		wantProg(t, manyVars(n)+" 1", impl.Prog{Datas: []impl.Data{oneData("Q", n, oneCon("C", varTy(n-1), varTy(0)))}, Main: aNum(1)})
	}
	for _, n := range []int{27, 28, 52, 300} {
		wantPlace(t, manyVars(n)+" 1", 0)
		wantPlace(t, "data U = U; "+manyVars(n)+" 1", 0)
		wantPlace(t, manyVars(n)+" data U = U; 1", 0)
		wantMisfit(t, manyVars(n)+" 1 ^)")
		wantMisfit(t, manyVars(n)+"^")
	}
	wantProg(t, "data Q"+strings.Repeat(" a", 26)+" = C; 1", impl.Prog{Datas: []impl.Data{oneData("Q", 26, oneCon("C"))}, Main: aNum(1)})
	wantPlace(t, "data Q"+strings.Repeat(" a", 27)+" = C; 1", 0)
}

// A type's name that is none of its data's vars is told by 0, if all tokens fit.
func TestVarsThatAreNone(t *testing.T) {
	for _, src := range []string{"data Q = C a; 1", "data Q b = C a; 1", "data Q b = C b a; 1", "data Q = C | D Int (a); 1", "data Q b = C (b -> a); 1",
		"data Q = C (List a); 1", "data Q a = C a; data R = D a; 1", "data Q = C a; data R a = D a; 1", "data Q q = C c; 1", "data Q ab = C a; 1", "data Q a = C ab; 1"} {
		wantPlace(t, src, 0)
	}
	wantMisfit(t, "data Q = C a; 1 ^)")
	wantMisfit(t, "data Q = C a; ^")
	wantMisfit(t, "data Q = C a ^-> Int; 1")
	wantMisfit(t, "data Q = C a; data R = ^; 1")
	wantPlace(t, "data Q = C a; 1 #", 16)
}

func TestKeywordsWhereNamesAreWanted(t *testing.T) {
	for _, k := range everyKeyword() {
		wantMisfit(t, "fun ^"+k+" -> 1")
		wantMisfit(t, "let ^"+k+" = 1 in 2")
		wantMisfit(t, "rec ^"+k+" x = 1 in 2")
		wantMisfit(t, "rec f ^"+k+" = 1 in 2")
		wantMisfit(t, "case 1 of { ^"+k+" -> 2 }")
		wantMisfit(t, "case 1 of { C ^"+k+" -> 2 }")
		wantMisfit(t, "case 1 of { (^"+k+") -> 2 }")
		wantMisfit(t, "put ^"+k)
		wantMisfit(t, "f ^"+k)
		wantMisfit(t, "C ^"+k)
		wantMisfit(t, "f x ^"+k+" 1")
		wantMisfit(t, "data ^"+k+" = C; 1")
		wantMisfit(t, "data Q ^"+k+" = C; 1")
		wantMisfit(t, "data Q a ^"+k+" = C a; 1")
		wantMisfit(t, "data Q = ^"+k+"; 1")
		wantMisfit(t, "data Q = C ^"+k+"; 1")
		wantMisfit(t, "data Q = C (^"+k+"); 1")
		wantMisfit(t, "data Q = C (List ^"+k+"); 1")
		wantMisfit(t, "data Q = C (Int -> ^"+k+"); 1")
		if k != "put" {
			wantMisfit(t, "1 + ^"+k+" x -> x")
			wantMisfit(t, "1 * ^"+k+" x -> x")
			wantMisfit(t, "1 < ^"+k+" x -> x")
		}
		wantMain(t, k+"s", aVar(k+"s"))
		wantMain(t, "fun x"+k+" -> x"+k, aFun("x"+k, aVar("x"+k)))
	}
}

func TestIntWhereConsAreWanted(t *testing.T) {
	wantMisfit(t, "^Int")
	wantMisfit(t, "f ^Int")
	wantMisfit(t, "C ^Int")
	wantMisfit(t, "put ^Int")
	wantMisfit(t, "(^Int)")
	wantMisfit(t, "1 + ^Int")
	wantMisfit(t, "1 ^Int")
	wantMisfit(t, "case 1 of { ^Int -> 2 }")
	wantMisfit(t, "case 1 of { C ^Int -> 2 }")
	wantMisfit(t, "case 1 of { (^Int) -> 2 }")
	wantMisfit(t, "data ^Int = C; 1")
	wantMisfit(t, "data Q ^Int = C; 1")
	wantMisfit(t, "data Q = ^Int; 1")
	wantMisfit(t, "data Q = C | ^Int; 1")
	wantMisfit(t, "data Q = C (Int ^Int); 1")
	wantMisfit(t, "data Q a = C (Int ^a); 1")
	wantMisfit(t, "data Q = C (Int ^(Int)); 1")
	for _, near := range []string{"INT", "Inte", "In", "IntInt"} {
		wantMain(t, near, aCon(near))
		wantPattern(t, near, conPat(near))
		wantTypes(t, near, dataTy(near))
		wantProg(t, "data "+near+" = "+near+"; 1", impl.Prog{Datas: []impl.Data{oneData(near, 0, oneCon(near))}, Main: aNum(1)})
	}
}

func TestExpressionsThatDoNotFit(t *testing.T) {
	for _, marked := range []string{"^", "  ^", "\n\n^", "f (^", "(^", "(1^", "(1 ^;", "(^)", "1 +^", "1 + ^+ 2", "1 + ^", "^+ 1", "^- 1", "^* 2", "1 - ^- 2", "1 * ^* 2", "1 + ^* 2",
		"1 <^", "^< 1", "^== 1", "1 ^= 2", "1 == ^= 2", "1 ^-> 2", "^_", "f ^_", "1 ^)", "1 2^)", "f x ^;", "1 ^; 2", "1 ^| 2", "1 ^{", "1 ^}", "^{ 1 }", "^->", "^=", "^|", "^;",
		"fun^", "fun ^-> 1", "fun ^1 -> 1", "fun ^X -> 1", "fun ^(x) -> 1", "fun ^_ -> 1", "fun x^", "fun x ^y -> 1", "fun x ^= 1", "fun x ->^", "fun x -> ^->", "fun x -> 1 ^->",
		"let^", "let ^= 1 in 2", "let ^X = 1 in 2", "let ^1 = 1 in 2", "let x^", "let x ^y = 1 in 2", "let x ^== 1 in 2", "let x ^-> 1 in 2", "let x =^", "let x = ^in x", "let x = 1^", "let x = 1 in^", "let x = 1 ^; 2", "let x = 1 in 2 ^in 3",
		"rec^", "rec f^", "rec f ^= 1 in 2", "rec f x^", "rec f x ^y = 1 in 2", "rec f ^X = 1 in 2", "rec ^F x = 1 in 2", "rec f x =^", "rec f x = 1^", "rec f x = 1 ^of", "rec f x = 1 in^",
		"if^", "if ^then 1 else 2", "if 1^", "if 1 ^else 2", "if 1 then^", "if 1 then ^else 2", "if 1 then 2^", "if 1 then 2 ^then 3", "if 1 then 2 else^", "if 1 then 2 else 3 ^else 4",
		"case^", "case ^of { x -> 1 }", "case 1^", "case 1 ^{ x -> 1 }", "case 1 of^", "case 1 of ^x -> 1", "case 1 of {^", "case 1 of { ^}", "case 1 of { ^-> 1 }", "case 1 of { ^; x -> 1 }",
		"case 1 of { x^", "case 1 of { x ^}", "case 1 of { x ^= 1 }", "case 1 of { x ^y -> 1 }", "case 1 of { 1 ^2 -> 1 }", "case 1 of { _ ^_ -> 1 }", "case 1 of { (C) ^x -> 1 }", "case 1 of { x ->^", "case 1 of { x -> ^}", "case 1 of { x -> 1^", "case 1 of { x -> 1 ^| y -> 2 }",
		"case 1 of { x -> 1;^", "case 1 of { x -> 1; ^}", "case 1 of { x -> 1; ^; }", "case 1 of { x -> 1 ^-> 2 }", "case 1 of { x -> 1 } ^}", "case 1 of { x -> 1 } ^2", "case 1 of { x -> 1 } ^+ 2",
		"case 1 of { C (^) -> 1 }", "case 1 of { C (x ^y) -> 1 }", "case 1 of { C (x^", "case 1 of { ^+ -> 1 }", "case 1 of { x ^+ 1 -> 1 }", "case 1 of { ^- 1 -> 1 }", "case 1 of { ((x) ^-> 1 }", "case 1 of { C ^+ -> 1 }",
		"put^", "put ^+ 1", "put 1 ^2", "put ^put 1", "put x ^y", "put C ^x", "f ^put x", "C ^put x", "put (^)",
		"1 + ^fun x -> x", "1 * ^let x = 1 in x", "1 < ^if 1 then 2 else 3", "f ^fun x -> x", "f x ^let", "C ^case x of { y -> 1 }", "^in", "^of", "^then", "^else", "1 ^data", "let x = ^data Q = C; 1 in 2"} {
		wantMisfit(t, marked)
	}
}

func TestDatasThatDoNotFit(t *testing.T) {
	for _, marked := range []string{"data^", "data ^= C; 1", "data ^q = C; 1", "data ^1 = C; 1", "data ^data Q = C; 1", "data Q^", "data Q ^; 1", "data Q ^| C; 1", "data Q ^R = C; 1", "data Q a ^1 = C; 1", "data Q ^(a) = C; 1", "data Q ^_ = C; 1", "data Q ^== C; 1",
		"data Q =^", "data Q = ^; 1", "data Q = ^| C; 1", "data Q = ^a; 1", "data Q = ^1; 1", "data Q = ^(C); 1", "data Q = C^", "data Q = C | ^| D; 1", "data Q = C |^", "data Q = C | ^; 1", "data Q = C ^= D; 1", "data Q = C ^1; 1", "data Q = C ^_; 1", "data Q = C ^-> D; 1", "data Q = C Int ^-> Int; 1", "data Q = C ^+ D; 1",
		"data Q = C (^); 1", "data Q = C (Int^; 1", "data Q = C (Int ^; 1", "data Q = C (^-> Int); 1", "data Q = C (Int -> ^); 1", "data Q = C (Int ->^", "data Q = C (Int ^| Int); 1", "data Q = C (Int -> Int ^Int); 1", "data Q = C ((Q) ^Int); 1", "data Q = C (Q -> Q Int -> ^-> Int); 1", "data Q = C (^1); 1", "data Q = C (Q ^1); 1", "data Q = C Int^)  ; 1",
		"data Q = C;^", "data Q = C; ^;", "data Q = C; ^= 1", "data Q = C; 1 ^;", "data Q = C; 1 ^data R = D; 2", "data Q = C; data^", "data Q = C; (^data R = D; 1)", "data Q = C ^data R = D; 1", "data Q = C D ^1"} {
		wantMisfit(t, marked)
	}
}

func TestWhatTokensTells(t *testing.T) {
	for _, src := range []string{"#", "a #", "let let #", ") #", "1 + 05", "data Q = C a; abcdefghi", "f\tx", "1 1073741824", "x > y", "\u00e9", "fun x -> caf\u00e9"} {
		_, bad := impl.Tokens(src)
		if bad < 0 {
			t.Errorf("%q has tokens", src)
		}
		wantPlace(t, src, bad)
	}
	blanks := strings.Repeat(" ", sourceBytes)
	wantMain(t, blanks[1:]+"1", aNum(1))
	wantMain(t, "1"+blanks[1:], aNum(1))
	wantPlace(t, blanks+"1", 0)
	wantPlace(t, "1"+blanks, 0)
	wantPlace(t, "let let"+blanks, 0)
	wantPlace(t, blanks, sourceBytes)
	wantPlace(t, blanks+" ", 0)
	wantPlace(t, "1 )"+blanks+"#", sourceBytes+3)
}

// sumOf is a sum that is so deep.
func sumOf(deep int) string { return "1" + strings.Repeat("+1", deep-1) }

// within is s in so many of ahead and behind.
func within(many int, ahead, s, behind string) string {
	return strings.Repeat(ahead, many) + s + strings.Repeat(behind, many)
}

func wantDeep(t *testing.T, src string, deep int) {
	t.Helper()
	if got, bad := impl.Parse(src); bad != -1 || impl.Deep(got.Main) != deep || deepBy(got.Main) != deep {
		t.Errorf("Parse(%q) is %d, %d deep, not %d", short(src), bad, impl.Deep(got.Main), deep)
	}
}

// Each form of an e about another one that is as deep as may be, and about one that is one deeper.
func TestDeepExpressions(t *testing.T) {
	forms := []struct {
		ahead, behind string
		more          int
	}{{"", "", 0}, {"(", ")", 0}, {"fun x -> ", "", 1}, {"let x = ", " in 1", 1}, {"let x = 1 in ", "", 1}, {"rec f x = ", " in 1", 1}, {"rec f x = 1 in ", "", 1},
		{"case ", " of { x -> 1 }", 1}, {"case 1 of { x -> ", " }", 2}, {"case 1 of { x -> ", "; y -> 2 }", 2}, {"case 1 of { x -> 1; y -> ", " }", 2},
		{"if ", " then 1 else 2", 1}, {"if 1 then ", " else 2", 1}, {"if 1 then 2 else ", "", 1}, {"(", ") * 1", 1}, {"1 * (", ")", 1}, {"1 + (", ")", 1}, {"", " + 1", 1}, {"1 - (", ")", 1}, {"", " - 1", 1},
		{"", " < 1", 1}, {"1 < ", "", 1}, {"", " == 1", 1}, {"1 == ", "", 1}, {"f (", ")", 1}, {"(", ") x", 1}, {"C (", ")", 1}, {"C 1 (", ") 2", 1}, {"put (", ")", 1}}
	for _, f := range forms {
		most := treeDeep - f.more
		wantDeep(t, f.ahead+sumOf(most-1)+f.behind, treeDeep-1)
		wantDeep(t, f.ahead+sumOf(most)+f.behind, treeDeep)
		wantPlace(t, f.ahead+sumOf(most+1)+f.behind, 0)
		wantPlace(t, f.ahead+sumOf(most+1)+f.behind+" ", 0)
	}
	for _, f := range [][2]string{{"fun x -> ", ""}, {"let x = 1 in ", ""}, {"let x = ", " in 1"}, {"f (", ")"}, {"C (", ")"}, {"put (", ")"}, {"", " x"}, {"", "*1"}, {"if ", " then 1 else 2"}} {
		wantDeep(t, within(treeDeep-1, f[0], "y", f[1]), treeDeep)
		wantPlace(t, within(treeDeep, f[0], "y", f[1]), 0)
		wantPlace(t, within(90, f[0], "y", f[1]), 0)
	}
	wantPlace(t, sumOf(1500), 0)
	wantMisfit(t, sumOf(treeDeep+1)+" ^)")
	wantMisfit(t, "f ("+sumOf(treeDeep+1)+"^")
	wantPlace(t, sumOf(treeDeep+1)+" #", 2*treeDeep+2)
}

func TestDeepPatterns(t *testing.T) {
	pattern := func(deep int) string { return within(deep-1, "C (", "x", ")") }
	about := func(pattern string) string { return "case 1 of { " + pattern + " -> 2 }" }
	wantDeep(t, about(pattern(treeDeep-2)), treeDeep)
	wantPlace(t, about(pattern(treeDeep-1)), 0)
	wantPlace(t, "case 1 of { x -> 1; "+pattern(treeDeep-1)+" -> 2 }", 0)
	wantDeep(t, "case 1 of { "+pattern(treeDeep-2)+" -> 2; x -> 1 }", treeDeep)
	wantDeep(t, "fun x -> "+about(pattern(treeDeep-3)), treeDeep)
	wantPlace(t, "fun x -> "+about(pattern(treeDeep-2)), 0)
	wantDeep(t, about("C 1 _ ("+pattern(treeDeep-3)+") 2"), treeDeep)
	wantPlace(t, about("C 1 _ ("+pattern(treeDeep-2)+") 2"), 0)
	wantMisfit(t, "case 1 of { "+pattern(treeDeep)+" -> 2; ^}")
}

func tyDeepBy(t impl.Ty) int {
	deep := 0
	for _, kid := range t.Kids {
		deep = max(deep, tyDeepBy(kid))
	}
	return deep + 1
}

func TestDeepTypes(t *testing.T) {
	forms := []func(deep int) string{
		func(deep int) string { return "(" + strings.Repeat("Int -> ", deep-1) + "Int)" },
		func(deep int) string { return within(deep-1, "(", "Int", " -> Int)") },
		func(deep int) string { return within(deep-1, "(L ", "Int", ")") },
		func(deep int) string { return within(deep-1, "(L Int ", "a", " Int)") },
		func(deep int) string { return within(deep-1, "(L a ", "L", ")") },
	}
	for i, form := range forms {
		for _, about := range []string{"data Q a = C %; 1", "data Q a = C | D Int % a; 1", "data P = P; data Q a = C % | D; data R = R; 1"} {
			src := strings.Replace(about, "%", form(treeDeep), 1)
			got, bad := impl.Parse(src)
			deepest := 0
			for _, d := range got.Datas {
				for _, c := range d.Cons {
					for _, a := range c.Args {
						deepest = max(deepest, tyDeepBy(a))
					}
				}
			}
			if bad != -1 || deepest != treeDeep {
				t.Errorf("form %d, %q: %d, and a type that is %d deep", i, src, bad, deepest)
			}
			wantPlace(t, strings.Replace(about, "%", form(treeDeep+1), 1), 0)
			wantPlace(t, strings.Replace(about, "%", form(100), 1), 0)
			wantMisfit(t, strings.Replace(about, "%", form(treeDeep+1), 1)+" ^)")
			wantMisfit(t, strings.Replace(about, "%", form(treeDeep+1)+" ^)", 1))
		}
	}
	wantDeep(t, "data Q = C "+forms[0](treeDeep)+"; "+sumOf(treeDeep), treeDeep)
}

// Brackets are no trees of their own.
func TestManyBrackets(t *testing.T) {
	wantMain(t, within(1499, "(", "x", ")"), aVar("x"))
	wantPattern(t, within(1400, "(", "x", ")"), varPat("x"))
	wantPattern(t, within(1400, "(", "C x", ")"), conPat("C", varPat("x")))
	wantTypes(t, within(1400, "(", "a", ")"), varTy(0))
	wantTypes(t, within(1400, "(", "D a -> b", ")"), funTy(dataTy("D", varTy(0)), varTy(1)))
	wantPlace(t, strings.Repeat("(", sourceBytes), sourceBytes)
	wantPlace(t, strings.Repeat("(", sourceBytes+1), 0)
	wantMisfit(t, within(1400, "(", "x", ")")+"^)")
	wantPlace(t, strings.Repeat("fun x->", 400), 2800)
	wantPlace(t, strings.Repeat("case ", 600), 3000)
	wantPlace(t, "data Q = C "+strings.Repeat("(", 2900), 2911)
}

func TestWideTrees(t *testing.T) {
	many := aCon("C")
	for range 1400 {
		many.Kids = append(many.Kids, aNum(1))
	}
	wantMain(t, "C"+strings.Repeat(" 1", 1400), many)
	wide := node(impl.NdCase, aNum(1))
	for range 400 {
		wide.Kids = append(wide.Kids, anAlt(anyPat(), aNum(1)))
	}
	wantMain(t, "case 1 of {"+strings.Repeat("_->1;", 399)+"_->1}", wide)
	got, bad := impl.Parse(strings.Repeat("data Q=C;", 300) + "1")
	if bad != -1 || len(got.Datas) != 300 {
		t.Errorf("300 datas: %d, and %d of them", bad, len(got.Datas))
	}
}

func TestDeepOfNodes(t *testing.T) {
	leaf := aNum(1)
	for _, c := range []struct {
		n    impl.Node
		deep int
	}{{impl.Node{}, 1}, {leaf, 1}, {impl.Node{Kids: []impl.Node{}}, 1}, {impl.Node{Op: -5, N: 7, S: "x", T: "y"}, 1}, {node(0, impl.Node{}), 2}, {node(99, leaf, leaf), 2},
		{node(1, leaf, node(1, leaf)), 3}, {node(1, node(1, leaf), leaf), 3}, {node(1, leaf, node(1, node(1, leaf), leaf), leaf), 4},
		{node(1, node(1, node(1, node(1))), node(1, node(1))), 4}, {node(1, node(1, node(1)), node(1, node(1, node(1)))), 4},
		{aFun("x", aFun("y", aVar("x"))), 3}, {node(impl.NdCase, leaf, anAlt(conPat("C", conPat("D")), leaf)), 4}} {
		if got := impl.Deep(c.n); got != c.deep || deepBy(c.n) != c.deep {
			t.Errorf("Deep(%s) is %d, not %d", told(c.n), got, c.deep)
		}
	}
	long := leaf
	for i := 1; i <= 300000; i++ {
		long = node(impl.NdFun, long)
		if i == 1000 || i == 300000 {
			if got := impl.Deep(long); got != i+1 {
				t.Errorf("Deep of %d within each other is %d", i+1, got)
			}
		}
	}
}

func TestDeepOfRandomNodes(t *testing.T) {
	s := steps(3)
	for range 3000 {
		n := s.randomNode(1 + s.below(9))
		before := told(n)
		if got := impl.Deep(n); got != deepBy(n) || told(n) != before {
			t.Errorf("Deep(%s) is %d", before, got)
		}
	}
}

// Nothing is written into a node, nor behind its kids.
func TestDeepWritesNothing(t *testing.T) {
	room := []impl.Node{aNum(1), aFun("x", aNum(2)), aNum(3), aNum(4)}
	inner := []impl.Node{aNum(5), aNum(6), aNum(7)}
	room[0].Kids = inner[:1]
	n := impl.Node{Op: impl.NdApp, Kids: room[:2]}
	before := told(impl.Node{Kids: room}) + told(impl.Node{Kids: inner})
	impl.Deep(n)
	if told(impl.Node{Kids: room})+told(impl.Node{Kids: inner}) != before || len(n.Kids) != 2 {
		t.Error("Deep wrote into what it was given")
	}
}

// Promise 3: what is within is told from the left. Trees are written with and without needless brackets, and are told as they were.
func TestRandomProgramsAreToldAsTheyWere(t *testing.T) {
	s := steps(1)
	ops := map[int]int{}
	for i := range 12000 {
		p := s.randomProg(1 + s.below(6))
		w := scribe{steps: steps(i)}
		w.prog(p)
		src := w.text()
		if len(src) > sourceBytes {
			continue
		}
		got, bad := impl.Parse(src)
		if bad != -1 || toldProg(got) != toldProg(p) {
			t.Fatalf("Parse(%q) is\n%s and %d, not\n%s", src, toldProg(got), bad, toldProg(p))
		}
		countOps(got.Main, ops)
	}
	for op := impl.NdNum; op <= impl.PtCon; op++ {
		if ops[op] < 500 {
			t.Errorf("only %d nodes of op %d", ops[op], op)
		}
	}
}

func countOps(n impl.Node, ops map[int]int) {
	ops[n.Op]++
	for _, kid := range n.Kids {
		countOps(kid, ops)
	}
}

func holdAgainstGrammar(t *testing.T, src string) int {
	t.Helper()
	got, bad := impl.Parse(src)
	want := placeBy(src)
	if bad != want || bad != -1 && !isZero(got) {
		t.Fatalf("Parse(%q) is %d, not %d (zero beside it: %v)", src, bad, want, isZero(got))
	}
	return bad
}

// growTexts holds each text that begins so and goes on by at most so many of the tokens.
func growTexts(t *testing.T, src string, left int, tokens []string, behind string) {
	t.Helper()
	holdAgainstGrammar(t, src+behind)
	for i := 0; left > 0 && i < len(tokens); i++ {
		growTexts(t, src+" "+tokens[i], left-1, tokens, behind)
	}
}

func TestPlacesInShortTexts(t *testing.T) {
	all := append(append(everySign(), everyKeyword()...), "x", "C", "Int", "1")
	growTexts(t, "", 3, all, "")
	growTexts(t, "data Q a =", 4, []string{"a", "b", "C", "Int", "(", ")", "->", "|", ";"}, "")
	growTexts(t, "data Q a = C (", 3, []string{"a", "C", "Int", "(", ")", "->", "|", ";", "of"}, "); 1")
	growTexts(t, "data", 4, []string{"Q", "a", "Int", "=", ";", "1", "data"}, " = C a; 1")
	growTexts(t, "case 1 of {", 4, []string{"x", "C", "1", "_", "(", ")", "->", ";", "}"}, "")
	growTexts(t, "case 1 of { x -> 1 ;", 3, []string{"x", "C", "1", "_", "(", ")", "->", ";", "}", "+"}, " -> 2 }")
	growTexts(t, "let x = 1 in", 3, []string{"x", "C", "1", "(", ")", "+", "*", "<", "==", "put", "fun", "->", "in"}, "")
	growTexts(t, "if 1 then", 4, []string{"x", "if", "then", "else", "+", "(", ")"}, " else 2")
}

// swapped is a program's tokens, of which some are gone, doubled, or others.
func (s *steps) swapped(tokens []string) []string {
	list := slices.Clone(tokens)
	others := append(append(everySign(), everyKeyword()...), "x", "y", "vaa", "vab", "C", "Nil", "Int", "0", "7")
	for left := 1 + s.below(2); left > 0 && len(list) > 0; left-- {
		at := s.below(len(list))
		switch s.below(5) {
		case 0:
			list = slices.Delete(list, at, at+1)
		case 1:
			list = slices.Insert(list, at, list[at])
		case 2:
			list = slices.Insert(list, at, s.pick(others...))
		case 3:
			list[at] = s.pick(others...)
		default:
			other := s.below(len(list))
			list[at], list[other] = list[other], list[at]
		}
	}
	return list
}

func TestPlacesInSwappedPrograms(t *testing.T) {
	s := steps(5)
	fits, none, refused := 0, 0, 0
	for range 8000 {
		w := scribe{steps: s}
		w.prog(s.randomProg(1 + s.below(5)))
		w.tokens = s.swapped(w.tokens)
		if len(w.tokens) > 150 {
			continue
		}
		src := w.text()
		switch holdAgainstGrammar(t, src) {
		case -1:
			fits++
			holdWrittenAgain(t, src)
		case 0:
			refused++
		default:
			none++
		}
	}
	if fits < 500 || none < 2000 || refused < 20 {
		t.Errorf("the programs are too much alike: %d fit, %d do not, %d are told by 0", fits, none, refused)
	}
}

// holdWrittenAgain writes what Parse told, and parses that.
func holdWrittenAgain(t *testing.T, src string) {
	t.Helper()
	first, _ := impl.Parse(src)
	w := scribe{steps: steps(len(src))}
	w.prog(first)
	again, bad := impl.Parse(w.text())
	if bad != -1 || toldProg(again) != toldProg(first) {
		t.Fatalf("%q is told as\n%s, and written again as\n%s and %d", src, toldProg(first), toldProg(again), bad)
	}
}

func TestPlacesInBeginnings(t *testing.T) {
	src := "data List a = Nil | Cons a (List a -> Int);\nrec f x = case x of { Nil -> 0; Cons y (C _ 1) -> if y < 2 then put y + 1 else f 2 * (fun z -> z) } in let v = f Nil == 3 in v"
	for n := range len(src) + 1 {
		holdAgainstGrammar(t, src[:n])
		holdAgainstGrammar(t, src[n:])
		for _, token := range []string{" ( ", " ) ", " ; ", " x ", " 1 ", " Int ", " of ", " # "} {
			holdAgainstGrammar(t, src[:n]+token+src[n:])
		}
	}
}

func TestParseOfTextsThatAreNone(t *testing.T) {
	for _, src := range mixedTexts(3000) {
		holdAgainstGrammar(t, src)
	}
	for b := range 256 {
		holdAgainstGrammar(t, string([]byte{byte(b)}))
		holdAgainstGrammar(t, "x"+string([]byte{byte(b)}))
		holdAgainstGrammar(t, "x "+string([]byte{byte(b)})+" y")
	}
	for _, src := range []string{strings.Repeat("x", 1000000), strings.Repeat("x ", 1000000), strings.Repeat("\x00", 1000000), strings.Repeat("(", 1000000)} {
		_, bad := impl.Tokens(src)
		wantPlace(t, src, bad)
	}
}

// A piece is a run of memory that belongs to one list.
type piece struct{ begin, end uintptr }

type pieces struct{ list []piece }

func (p *pieces) add(begin unsafe.Pointer, size uintptr) {
	if size > 0 {
		p.list = append(p.list, piece{uintptr(begin), uintptr(begin) + size})
	}
}

func addList[T any](p *pieces, list []T) {
	var one T
	p.add(unsafe.Pointer(unsafe.SliceData(list)), uintptr(cap(list))*unsafe.Sizeof(one))
}

func (p *pieces) addText(s string) { p.add(unsafe.Pointer(unsafe.StringData(s)), uintptr(len(s))) }

func (p *pieces) overlap() bool {
	slices.SortFunc(p.list, func(a, b piece) int { return int(a.begin) - int(b.begin) })
	for i := range len(p.list) - 1 {
		if p.list[i].end > p.list[i+1].begin {
			return true
		}
	}
	return false
}

func addNode(lists, texts *pieces, n impl.Node) {
	addList(lists, n.Kids)
	texts.addText(n.S)
	texts.addText(n.T)
	for _, kid := range n.Kids {
		addNode(lists, texts, kid)
	}
}

func addTy(lists, texts *pieces, ty impl.Ty) {
	addList(lists, ty.Kids)
	texts.addText(ty.S)
	for _, kid := range ty.Kids {
		addTy(lists, texts, kid)
	}
}

func addProg(lists, texts *pieces, p impl.Prog) {
	addList(lists, p.Datas)
	for _, d := range p.Datas {
		texts.addText(d.Name)
		addList(lists, d.Cons)
		for _, c := range d.Cons {
			texts.addText(c.Name)
			addList(lists, c.Args)
			for _, a := range c.Args {
				addTy(lists, texts, a)
			}
		}
	}
	addNode(lists, texts, p.Main)
}

// An answer shares no memory with the text, and no two lists of it share any.
func TestProgramsAreNewMemory(t *testing.T) {
	s := steps(9)
	for i := range 500 {
		w := scribe{steps: steps(i)}
		w.prog(s.randomProg(1 + s.below(6)))
		src := w.text()
		kept := strings.Clone(src)
		first, bad := impl.Parse(src)
		if bad != -1 {
			continue
		}
		want := toldProg(first)
		var lists, texts pieces
		addProg(&lists, &texts, first)
		if lists.overlap() {
			t.Fatalf("two lists of Parse(%q) share memory", src)
		}
		begin := uintptr(unsafe.Pointer(unsafe.StringData(src)))
		for _, p := range texts.list {
			if p.begin < begin+uintptr(len(src)) && begin < p.end {
				t.Fatalf("a text of Parse(%q) is a piece of the source", src)
			}
		}
		spoil(first)
		if again, bad := impl.Parse(src); bad != -1 || toldProg(again) != want || src != kept {
			t.Fatalf("asked again, Parse(%q) is another one", src)
		}
	}
}

func spoil(p impl.Prog) {
	for i := range p.Datas {
		for j := range p.Datas[i].Cons {
			clear(p.Datas[i].Cons[j].Args)
		}
		clear(p.Datas[i].Cons)
	}
	clear(p.Datas)
	spoilNode(p.Main)
}

func spoilNode(n impl.Node) {
	for i := range n.Kids {
		spoilNode(n.Kids[i])
		n.Kids[i] = impl.Node{Op: 99, S: "gone " + strconv.Itoa(i)}
	}
}
