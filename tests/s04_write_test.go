package tests

import (
	"strings"
	"testing"
	"unsafe"

	"loop.example/g00323/impl"
)

func wantTyText(t *testing.T, ty impl.Ty, want string) {
	t.Helper()
	if got := impl.TyText(ty); got != want {
		t.Errorf("TyText(%s) is %q, not %q", toldTy(ty), got, want)
	}
}

// wantWrite holds the text, and that it is parsed as the program was.
func wantWrite(t *testing.T, p impl.Prog, want string) {
	t.Helper()
	if got := impl.Write(p); got != want || !impl.Tidy(p) {
		t.Errorf("Write(%s) is\n%q, not\n%q (tidy: %v)", toldProg(p), got, want, impl.Tidy(p))
	}
	wantProg(t, want, p)
}

func wantMainText(t *testing.T, n impl.Node, want string) {
	t.Helper()
	wantWrite(t, onlyMain(n), want+"\n")
}

func wantPatternText(t *testing.T, pattern impl.Node, want string) {
	t.Helper()
	wantMainText(t, node(impl.NdCase, aNum(1), anAlt(pattern, aNum(2))), "(case 1 of { "+want+" -> 2 })")
}

// aData is a program of one data with two vars, and one con with these types.
func aData(types ...impl.Ty) impl.Prog {
	return impl.Prog{Datas: []impl.Data{oneData("D", 2, oneCon("C", types...))}, Main: aNum(1)}
}

func wantTypesText(t *testing.T, want string, types ...impl.Ty) {
	t.Helper()
	wantWrite(t, aData(types...), "data D a b = C"+want+";\n1\n")
}

func wantTidy(t *testing.T, p impl.Prog) {
	t.Helper()
	if got := impl.Write(p); !impl.Tidy(p) || got != progTextBy(p) {
		t.Errorf("%s is tidy: %v; it is written as %q", short(toldProg(p)), impl.Tidy(p), short(got))
	}
}

func wantUntidy(t *testing.T, p impl.Prog) {
	t.Helper()
	if got := impl.Write(p); impl.Tidy(p) || got != "" {
		t.Errorf("%s is tidy: %v; it is written as %q", short(toldProg(p)), impl.Tidy(p), short(got))
	}
}

func wantTidyMain(t *testing.T, n impl.Node) {
	t.Helper()
	wantTidy(t, onlyMain(n))
}

// wantUntidyMain holds it as the whole tree, and within others.
func wantUntidyMain(t *testing.T, n impl.Node) {
	t.Helper()
	wantUntidy(t, onlyMain(n))
	wantUntidy(t, onlyMain(aFun("x", n)))
	wantUntidy(t, onlyMain(anApp(aVar("f"), n)))
	wantUntidy(t, onlyMain(aCon("C", aNum(1), aCon("D", n))))
	wantUntidy(t, onlyMain(node(impl.NdIf, aNum(1), n, aNum(2))))
	wantUntidy(t, onlyMain(node(impl.NdCase, n, anAlt(anyPat(), aNum(1)))))
	wantUntidy(t, onlyMain(node(impl.NdCase, aNum(1), anAlt(anyPat(), aNum(1)), anAlt(anyPat(), n))))
}

func caseOfPattern(p impl.Node) impl.Node { return node(impl.NdCase, aNum(1), anAlt(p, aNum(2))) }

func wantTidyPattern(t *testing.T, p impl.Node) {
	t.Helper()
	wantTidyMain(t, caseOfPattern(p))
	wantTidyMain(t, caseOfPattern(conPat("C", anyPat(), p)))
}

func wantUntidyPattern(t *testing.T, p impl.Node) {
	t.Helper()
	wantUntidy(t, onlyMain(caseOfPattern(p)))
	wantUntidy(t, onlyMain(caseOfPattern(conPat("C", p))))
	wantUntidy(t, onlyMain(caseOfPattern(conPat("C", anyPat(), conPat("D", p, anyPat())))))
	wantUntidy(t, onlyMain(node(impl.NdCase, aNum(1), anAlt(anyPat(), aNum(1)), anAlt(p, aNum(2)))))
}

func wantTidyTy(t *testing.T, ty impl.Ty) {
	t.Helper()
	wantTidy(t, aData(ty))
	wantTidy(t, aData(intTy(), dataTy("L", ty)))
}

func wantUntidyTy(t *testing.T, ty impl.Ty) {
	t.Helper()
	wantUntidy(t, aData(ty))
	wantUntidy(t, aData(intTy(), ty))
	wantUntidy(t, aData(dataTy("L", intTy(), ty)))
	wantUntidy(t, aData(funTy(ty, intTy())))
	wantUntidy(t, aData(funTy(intTy(), ty)))
	later := aData(intTy())
	later.Datas = append(later.Datas, oneData("E", 2, oneCon("F"), oneCon("G", ty)))
	wantUntidy(t, later)
}

func TestTyTextOfEachOp(t *testing.T) {
	a, b, i := varTy(0), varTy(1), intTy()
	wantTyText(t, i, "Int")
	wantTyText(t, a, "a")
	wantTyText(t, b, "b")
	wantTyText(t, funTy(a, b), "(a -> b)")
	wantTyText(t, funTy(a, funTy(b, i)), "(a -> (b -> Int))")
	wantTyText(t, funTy(funTy(a, b), i), "((a -> b) -> Int)")
	wantTyText(t, dataTy("List"), "List")
	wantTyText(t, dataTy("List", a), "(List a)")
	wantTyText(t, dataTy("P", i, dataTy("Q"), b), "(P Int Q b)")
	wantTyText(t, dataTy("P", dataTy("Q", dataTy("R", a)), funTy(a, dataTy("S", i))), "(P (Q (R a)) (a -> (S Int)))")
	wantTyText(t, funTy(dataTy("P", a), dataTy("Q")), "((P a) -> Q)")
}

func TestTyTextOfVars(t *testing.T) {
	for n, want := range map[int]string{0: "a", 1: "b", 12: "m", 24: "y", 25: "z", 26: "a", 27: "b", 51: "z", 52: "a", 1000: "m", 1<<63 - 1: "h", -1: "?", -2: "?", -26: "?", -1 << 63: "?"} {
		wantTyText(t, varTy(n), want)
		wantTyText(t, funTy(varTy(n), intTy()), "("+want+" -> Int)")
		wantTyText(t, dataTy("L", varTy(n)), "(L "+want+")")
	}
	for n := range 200 {
		wantTyText(t, varTy(n), letterBy(n))
	}
}

func TestTyTextOfWhatIsNone(t *testing.T) {
	i := intTy()
	fun := func(kids ...impl.Ty) impl.Ty { return impl.Ty{Op: impl.TyFun, Kids: kids} }
	for _, ty := range []impl.Ty{{}, {Op: -1}, {Op: 5}, {Op: 99}, {Op: 1 << 62}, {Op: -1 << 63}, {N: 3}, {S: "List"}, {Kids: []impl.Ty{i, i}}, {Op: 5, N: 1, S: "C", Kids: []impl.Ty{i}},
		fun(), fun(i), fun(i, i, i), fun(fun(i, i)), fun(i, i, i, i)} {
		wantTyText(t, ty, "?")
		wantTyText(t, funTy(ty, i), "(? -> Int)")
		wantTyText(t, funTy(i, ty), "(Int -> ?)")
		wantTyText(t, dataTy("L", i, ty, i), "(L Int ? Int)")
		wantTyText(t, dataTy("L", dataTy("M", ty)), "(L (M ?))")
	}
}

// What an op does not name is nothing to TyText, whatever it is.
func TestTyTextLooksAtWhatIsNamed(t *testing.T) {
	i := intTy()
	wantTyText(t, impl.Ty{Op: impl.TyInt, N: 7, S: "x", Kids: []impl.Ty{i, i}}, "Int")
	wantTyText(t, impl.Ty{Op: impl.TyVar, N: 2, S: "x", Kids: []impl.Ty{i}}, "c")
	wantTyText(t, impl.Ty{Op: impl.TyVar, N: -2, S: "x", Kids: []impl.Ty{i}}, "?")
	wantTyText(t, impl.Ty{Op: impl.TyFun, N: -2, S: "x", Kids: []impl.Ty{i, i}}, "(Int -> Int)")
	wantTyText(t, impl.Ty{Op: impl.TyData, N: -2, S: "x y", Kids: []impl.Ty{i}}, "(x y Int)")
	wantTyText(t, dataTy(""), "")
	wantTyText(t, dataTy("", i), "( Int)")
	wantTyText(t, dataTy("%\x00\xff\u00e9"), "%\x00\xff\u00e9")
	wantTyText(t, impl.Ty{Op: impl.TyData, S: "Int", Kids: []impl.Ty{}}, "Int")
}

func TestTyTextOfRandomTypes(t *testing.T) {
	s := steps(11)
	none := 0
	for range 6000 {
		ty := s.randomTy(60, 1+s.below(6))
		if s.below(2) == 0 {
			all := spots{}
			all.addType(&ty)
			s.turnType(all.types[s.below(len(all.types))])
		}
		wantTyText(t, ty, tyTextBy(ty))
		none += strings.Count(tyTextBy(ty), "?")
	}
	if none < 300 {
		t.Errorf("only %d types are none", none)
	}
}

func TestTyTextOfGreatTypes(t *testing.T) {
	const many = 300000
	left, right, within, wide := intTy(), intTy(), varTy(1), dataTy("W")
	for range many {
		left, right, within = funTy(left, varTy(0)), funTy(varTy(0), right), dataTy("L", within)
		wide.Kids = append(wide.Kids, varTy(2))
	}
	for name, c := range map[string]struct {
		ty                   impl.Ty
		ahead, about, behind string
	}{"left": {left, "(", "Int", " -> a)"}, "right": {right, "(a -> ", "Int", ")"}, "within": {within, "(L ", "b", ")"}} {
		if impl.TyText(c.ty) != strings.Repeat(c.ahead, many)+c.about+strings.Repeat(c.behind, many) {
			t.Errorf("a type that goes far to the %s is not written", name)
		}
	}
	if impl.TyText(wide) != "(W"+strings.Repeat(" c", many)+")" {
		t.Error("a wide type is not written")
	}
}

func TestWriteOfEachKindOfNode(t *testing.T) {
	x, y, f, one := aVar("x"), aVar("y"), aVar("f"), aNum(1)
	wantMainText(t, aNum(0), "0")
	wantMainText(t, aNum(greatest), "1073741823")
	wantMainText(t, x, "x")
	wantMainText(t, aVar("abcdefgh"), "abcdefgh")
	wantMainText(t, aCon("Nil"), "Nil")
	wantMainText(t, aFun("x", x), "(fun x -> x)")
	wantMainText(t, aFun("x", aFun("y", one)), "(fun x -> (fun y -> 1))")
	wantMainText(t, anApp(f, x), "(f x)")
	wantMainText(t, anApp(f, x, y), "((f x) y)")
	wantMainText(t, anApp(f, anApp(x, y)), "(f (x y))")
	wantMainText(t, anApp(one, aNum(2)), "(1 2)")
	wantMainText(t, aLet("x", one, y), "(let x = 1 in y)")
	wantMainText(t, aLet("x", aLet("y", one, x), aLet("f", x, y)), "(let x = (let y = 1 in x) in (let f = x in y))")
	wantMainText(t, aRec("f", "x", y, one), "(rec f x = y in 1)")
	wantMainText(t, aRec("f", "f", anApp(f, x), aFun("y", one)), "(rec f f = (f x) in (fun y -> 1))")
	wantMainText(t, node(impl.NdIf, x, y, one), "(if x then y else 1)")
	wantMainText(t, node(impl.NdIf, node(impl.NdLess, x, y), node(impl.NdIf, x, y, one), aFun("x", one)), "(if (x < y) then (if x then y else 1) else (fun x -> 1))")
	wantMainText(t, node(impl.NdCase, x, anAlt(anyPat(), y)), "(case x of { _ -> y })")
	wantMainText(t, node(impl.NdCase, anApp(f, x), anAlt(numPat(3), one), anAlt(varPat("y"), anApp(x, y)), anAlt(conPat("C", anyPat()), node(impl.NdCase, y, anAlt(anyPat(), one)))),
		"(case (f x) of { 3 -> 1; y -> (x y); (C _) -> (case y of { _ -> 1 }) })")
	for op, sign := range map[int]string{impl.NdAdd: "+", impl.NdSub: "-", impl.NdMul: "*", impl.NdLess: "<", impl.NdSame: "=="} {
		wantMainText(t, node(op, x, one), "(x "+sign+" 1)")
		wantMainText(t, node(op, node(op, x, y), one), "((x "+sign+" y) "+sign+" 1)")
		wantMainText(t, node(op, x, node(op, y, one)), "(x "+sign+" (y "+sign+" 1))")
		wantMainText(t, node(op, aCon("C"), aCon("C", x)), "(C "+sign+" (C x))")
		wantMainText(t, node(op, anApp(f, x), node(impl.NdPut, x)), "((f x) "+sign+" (put x))")
	}
	wantMainText(t, node(impl.NdPut, x), "(put x)")
	wantMainText(t, node(impl.NdPut, aCon("C")), "(put C)")
	wantMainText(t, node(impl.NdPut, aCon("C", x)), "(put (C x))")
	wantMainText(t, node(impl.NdPut, node(impl.NdPut, one)), "(put (put 1))")
	wantMainText(t, aCon("C", x), "(C x)")
	wantMainText(t, aCon("Cons", one, aCon("Cons", aNum(2), aCon("Nil"))), "(Cons 1 (Cons 2 Nil))")
	wantMainText(t, aCon("C", aFun("x", x), anApp(f, x), aCon("D"), node(impl.NdAdd, x, y)), "(C (fun x -> x) (f x) D (x + y))")
}

// A con that is applied is no con with one kid more.
func TestConsThatAreApplied(t *testing.T) {
	x, empty, f := aVar("x"), aCon("Nil"), aVar("f")
	wantMainText(t, anApp(empty, x), "((Nil) x)")
	wantMainText(t, anApp(empty, x, aNum(1)), "(((Nil) x) 1)")
	wantMainText(t, anApp(empty, empty), "((Nil) Nil)")
	wantMainText(t, anApp(empty, anApp(empty, x)), "((Nil) ((Nil) x))")
	wantMainText(t, anApp(empty, aCon("C", empty)), "((Nil) (C Nil))")
	wantMainText(t, anApp(aCon("C", x), x), "((C x) x)")
	wantMainText(t, anApp(aCon("C", x, empty), empty), "((C x Nil) Nil)")
	wantMainText(t, anApp(aCon("C", anApp(empty, x)), x), "((C ((Nil) x)) x)")
	wantMainText(t, anApp(f, empty), "(f Nil)")
	wantMainText(t, anApp(f, empty, x), "((f Nil) x)")
	wantMainText(t, anApp(anApp(empty, f), x), "(((Nil) f) x)")
	wantMainText(t, aCon("C", anApp(empty, x), empty), "(C ((Nil) x) Nil)")
	wantMainText(t, node(impl.NdPut, anApp(empty, x)), "(put ((Nil) x))")
	wantMainText(t, aFun("x", anApp(empty, x)), "(fun x -> ((Nil) x))")
	wantMainText(t, node(impl.NdCase, empty, anAlt(conPat("Nil"), empty), anAlt(anyPat(), anApp(empty, empty))), "(case Nil of { Nil -> Nil; _ -> ((Nil) Nil) })")
}

func TestWriteOfPatterns(t *testing.T) {
	wantPatternText(t, anyPat(), "_")
	wantPatternText(t, varPat("x"), "x")
	wantPatternText(t, numPat(0), "0")
	wantPatternText(t, numPat(greatest), "1073741823")
	wantPatternText(t, conPat("Nil"), "Nil")
	wantPatternText(t, conPat("C", anyPat()), "(C _)")
	wantPatternText(t, conPat("C", varPat("x"), numPat(7), conPat("Nil"), anyPat()), "(C x 7 Nil _)")
	wantPatternText(t, conPat("C", conPat("D", conPat("E", varPat("x")), conPat("F")), varPat("x")), "(C (D (E x) F) x)")
}

func TestWriteOfDatas(t *testing.T) {
	a, b, i := varTy(0), varTy(1), intTy()
	wantTypesText(t, "")
	wantTypesText(t, " a", a)
	wantTypesText(t, " b a Int D", b, a, i, dataTy("D"))
	wantTypesText(t, " (D a) b", dataTy("D", a), b)
	wantTypesText(t, " (a -> b) Int", funTy(a, b), i)
	wantTypesText(t, " (a -> (b -> Int))", funTy(a, funTy(b, i)))
	wantTypesText(t, " ((a -> b) -> Int)", funTy(funTy(a, b), i))
	wantTypesText(t, " (D (E a) (a -> F) G) Int", dataTy("D", dataTy("E", a), funTy(a, dataTy("F")), dataTy("G")), i)
	wantTypesText(t, " ((D a) -> (E (Int -> b)))", funTy(dataTy("D", a), dataTy("E", funTy(i, b))))
	wantWrite(t, impl.Prog{Datas: []impl.Data{oneData("Bool", 0, oneCon("No"), oneCon("Yes"))}, Main: aCon("Yes")}, "data Bool = No | Yes;\nYes\n")
	wantWrite(t, impl.Prog{Datas: []impl.Data{oneData("List", 1, oneCon("Nil"), oneCon("Cons", a, dataTy("List", a))), oneData("U", 0, oneCon("U")),
		oneData("T", 3, oneCon("A", varTy(2), b), oneCon("B"), oneCon("C", i, i, i))}, Main: aFun("x", aVar("x"))},
		"data List a = Nil | Cons a (List a);\ndata U = U;\ndata T a b c = A c b | B | C Int Int Int;\n(fun x -> x)\n")
	wantWrite(t, impl.Prog{Datas: []impl.Data{oneData("D", 1, oneCon("D")), oneData("D", 1, oneCon("D"), oneCon("D"))}, Main: aNum(1)}, "data D a = D;\ndata D a = D | D;\n1\n")
	wantWrite(t, impl.Prog{Datas: []impl.Data{oneData("Q", 26, oneCon("C", varTy(25), varTy(0)))}, Main: aNum(1)},
		"data Q a b c d e f g h i j k l m n o p q r s t u v w x y z = C z a;\n1\n")
	wantWrite(t, impl.Prog{Datas: []impl.Data{}, Main: aNum(1)}, "1\n")
	wantWrite(t, impl.Prog{Main: aNum(1)}, "1\n")
}

// Promise 4, of programs as people write them.
func TestWhatIsParsedIsWrittenAndParsedAsItWas(t *testing.T) {
	for src, want := range map[string]string{
		"1":                       "1\n",
		"(C)":                     "C\n",
		"f x y + 2*3 - z < 4":     "(((((f x) y) + (2 * 3)) - z) < 4)\n",
		"let x=1 in x==x":         "(let x = 1 in (x == x))\n",
		"(Nil) 4 5":               "(((Nil) 4) 5)\n",
		"Nil 4 5":                 "(Nil 4 5)\n",
		"(Nil 4) 5":               "((Nil 4) 5)\n",
		"put (Nil) + put (Nil 1)": "((put Nil) + (put (Nil 1)))\n",
		"data P one two = P two one (two -> one -> Int) (P (one) two) P; fun x -> case x of {P (u) _ (C) (D 1 E) v -> u;_->rec f n = if n then f (n - 1) else 0 in f}": "data P a b = P b a (b -> (a -> Int)) (P a b) P;\n" +
			"(fun x -> (case x of { (P u _ C (D 1 E) v) -> u; _ -> (rec f n = (if n then (f (n - 1)) else 0) in f) }))\n",
		"data Q a a b = C a b; 1": "data Q a b c = C a c;\n1\n",
	} {
		p, bad := impl.Parse(src)
		if bad != -1 {
			t.Errorf("%q is no program: %d", src, bad)
			continue
		}
		wantWrite(t, p, want)
	}
}

func holdWritten(t *testing.T, p impl.Prog) {
	t.Helper()
	text := impl.Write(p)
	if !impl.Tidy(p) || text != progTextBy(p) {
		t.Fatalf("Write(%s) is\n%q, not\n%q (tidy: %v)", toldProg(p), text, progTextBy(p), impl.Tidy(p))
	}
	got, bad := impl.Parse(text)
	if len(text) > sourceBytes {
		if bad != 0 || !isZero(got) {
			t.Fatalf("%d bytes are parsed: %d", len(text), bad)
		}
	} else if bad != -1 || toldProg(got) != toldProg(p) {
		t.Fatalf("%q is parsed as\n%s and %d, not as\n%s", text, toldProg(got), bad, toldProg(p))
	} else if impl.Write(got) != text {
		t.Fatalf("%q is written again as %q", text, impl.Write(got))
	}
}

// Promise 4: what is written is parsed as it was.
func TestRandomProgramsAreWrittenAndParsedAsTheyWere(t *testing.T) {
	s := steps(21)
	ops, applied, long := map[int]int{}, 0, 0
	for i := range 8000 {
		deep := 1 + s.below(7)
		if i%100 == 0 {
			deep = 11
		}
		p := s.randomProg(deep)
		holdWritten(t, p)
		countOps(p.Main, ops)
		for _, n := range spotsOf(&p).nodes {
			if n.Op == impl.NdApp && n.Kids[0].Op == impl.NdCon {
				applied++
			}
		}
		if len(impl.Write(p)) > sourceBytes {
			long++
		}
	}
	for op := impl.NdNum; op <= impl.PtCon; op++ {
		if ops[op] < 500 {
			t.Errorf("only %d nodes of op %d", ops[op], op)
		}
	}
	if applied < 500 || long < 20 {
		t.Errorf("only %d cons are applied, only %d texts are too long for a source", applied, long)
	}
}

// Whatever text is parsed is tidy, and is written so that it is parsed as it was.
func TestWhateverIsParsedIsTidy(t *testing.T) {
	s := steps(23)
	fits := 0
	for range 8000 {
		w := scribe{steps: s}
		w.prog(s.randomProg(1 + s.below(5)))
		if s.below(2) == 0 {
			w.tokens = s.swapped(w.tokens)
		}
		if p, bad := impl.Parse(w.text()); bad == -1 {
			holdWritten(t, p)
			fits++
		}
	}
	if fits < 3000 {
		t.Errorf("only %d texts are programs", fits)
	}
}

// A text of just so many bytes as a source may have is parsed; of one more it is not.
func TestWriteOfWhatIsLongerThanASource(t *testing.T) {
	many := func(kids int, name string) impl.Prog {
		c := aCon(name)
		for range kids {
			c.Kids = append(c.Kids, aNum(1))
		}
		return onlyMain(c)
	}
	for _, c := range []struct{ kids, letters, bytes int }{{1498, 1, sourceBytes}, {1498, 2, sourceBytes + 1}, {1497, 3, sourceBytes}, {1499, 1, sourceBytes + 2}, {200000, 8, 400011}} {
		p := many(c.kids, "Cccccccc"[:c.letters])
		holdWritten(t, p)
		if got := len(impl.Write(p)); got != c.bytes {
			t.Errorf("%d kids are written by %d bytes, not %d", c.kids, got, c.bytes)
		}
	}
	p := impl.Prog{Main: node(impl.NdCase, aNum(1))}
	for range 3000 {
		p.Datas = append(p.Datas, oneData("List", 1, oneCon("Nil"), oneCon("Cons", varTy(0), dataTy("List", varTy(0)))))
		p.Main.Kids = append(p.Main.Kids, anAlt(anyPat(), aNum(1)))
	}
	holdWritten(t, p)
}

func TestTidyOps(t *testing.T) {
	x, p := aVar("x"), anyPat()
	for _, op := range []int{0, -1, 21, 22, 99, 1 << 40, -1 << 63} {
		for _, kids := range [][]impl.Node{nil, {x}, {p}, {x, x}, {p, x}, {p, p}, {x, x, x}, {p, p, p}} {
			wantUntidyMain(t, node(op, kids...))
			wantUntidyPattern(t, node(op, kids...))
		}
		wantUntidyMain(t, impl.Node{Op: op, S: "x"})
		wantUntidyMain(t, impl.Node{Op: op, N: 1})
		wantUntidyPattern(t, impl.Node{Op: op, S: "x"})
	}
	wantUntidy(t, impl.Prog{})
	wantUntidy(t, impl.Prog{Datas: []impl.Data{oneData("D", 0, oneCon("C"))}})
}

// labels are what each op wants beside kids.
func labels(op int) impl.Node {
	n := impl.Node{Op: op}
	switch op {
	case impl.NdVar, impl.NdFun, impl.NdLet, impl.PtVar:
		n.S = "x"
	case impl.NdRec:
		n.S, n.T = "f", "x"
	case impl.NdCon, impl.PtCon:
		n.S = "C"
	}
	return n
}

func TestTidyKids(t *testing.T) {
	e := aNum(1)
	fewest := map[int]int{impl.NdFun: 1, impl.NdPut: 1, impl.NdIf: 3, impl.NdApp: 2, impl.NdLet: 2, impl.NdRec: 2, impl.NdAdd: 2, impl.NdSub: 2, impl.NdMul: 2, impl.NdLess: 2, impl.NdSame: 2}
	for op := impl.NdNum; op <= impl.NdPut; op++ {
		if op == impl.NdCase || op == impl.NdAlt {
			continue
		}
		for many := range 6 {
			n := labels(op)
			for range many {
				n.Kids = append(n.Kids, e)
			}
			if many == fewest[op] || op == impl.NdCon {
				wantTidyMain(t, n)
			} else {
				wantUntidyMain(t, n)
			}
			for i := range n.Kids {
				for _, bad := range []impl.Node{anyPat(), varPat("x"), numPat(1), conPat("C"), conPat("C", anyPat()), anAlt(anyPat(), e), anAlt(e, e), {}} {
					n.Kids[i] = bad
					wantUntidyMain(t, n)
				}
				n.Kids[i] = e
			}
		}
	}
}

func TestTidyCases(t *testing.T) {
	e, p := aNum(1), anyPat()
	alt := anAlt(p, e)
	wantTidyMain(t, node(impl.NdCase, e, alt))
	wantTidyMain(t, node(impl.NdCase, e, alt, alt))
	wantTidyMain(t, node(impl.NdCase, e, alt, alt, alt, alt))
	for _, kids := range [][]impl.Node{nil, {e}, {alt}, {p}, {alt, alt}, {p, alt}, {alt, e}, {e, e}, {e, p}, {e, e, alt}, {e, alt, e}, {e, alt, p}, {e, alt, alt, e}, {e, p, e}, {e, alt, {}}, {{}, alt}} {
		wantUntidyMain(t, node(impl.NdCase, kids...))
	}
	wantUntidyMain(t, alt)
	for _, kids := range [][]impl.Node{nil, {p}, {e}, {p, p}, {e, e}, {e, p}, {p, e, e}, {p, p, e}, {alt, e}, {p, alt}, {{}, e}, {p, {}}} {
		bad := node(impl.NdAlt, kids...)
		wantUntidyMain(t, bad)
		wantUntidyMain(t, node(impl.NdCase, e, bad))
		wantUntidyMain(t, node(impl.NdCase, e, alt, bad, alt))
		wantUntidyPattern(t, bad)
	}
	for op := impl.NdNum; op <= impl.PtCon; op++ {
		if op != impl.NdAlt {
			n := labels(op)
			n.Kids = []impl.Node{p, e}
			wantUntidyMain(t, node(impl.NdCase, e, n))
		}
	}
}

func TestTidyPatterns(t *testing.T) {
	e, p := aNum(1), anyPat()
	for _, good := range []impl.Node{p, varPat("x"), numPat(0), numPat(greatest), conPat("C"), conPat("C", p), conPat("C", p, varPat("x"), numPat(3), conPat("D"), conPat("D", p)), conPat("C", varPat("x"), varPat("x"))} {
		wantTidyPattern(t, good)
		wantUntidyMain(t, good)
	}
	for op := impl.NdNum; op <= impl.NdPut; op++ {
		for many := range 4 {
			n := labels(op)
			for range many {
				n.Kids = append(n.Kids, e)
			}
			wantUntidyPattern(t, n)
			for i := range n.Kids {
				n.Kids[i] = p
			}
			wantUntidyPattern(t, n)
		}
	}
	for _, op := range []int{impl.PtAny, impl.PtVar, impl.PtNum} {
		for many := 1; many < 4; many++ {
			n := labels(op)
			for range many {
				n.Kids = append(n.Kids, p)
			}
			wantUntidyPattern(t, n)
		}
	}
	for _, bad := range []impl.Node{e, aVar("x"), aCon("C"), anAlt(p, e), {}} {
		wantUntidyPattern(t, conPat("C", bad))
		wantUntidyPattern(t, conPat("C", p, bad))
		wantUntidyPattern(t, conPat("C", bad, p))
	}
}

// goodNames are names, and badNames are none; so with cons.
func goodNames() []string {
	return []string{"a", "z", "x", "abcdefgh", "zzzzzzzz", "xY", "aBCDEFGH", "lets", "datas", "i", "int", "le", "inn", "iff", "fUN"}
}

func badNames() []string {
	return append(everyKeyword(), "", "abcdefghi", strings.Repeat("a", 1000), "X", "Xy", "Int", "Let", "1", "x1", "1x", "x_", "_", "_x", "x y", " x", "x ", "x\n", "(x)", "x'", "x.", "-", "@", "`", "{", "[", "x\x00", "\x00", "\u00e9", "x\u00e9", "\xff", "x\xff", "\u0430", "ａ", "xſ", "x\u212a")
}

func goodCons() []string {
	return []string{"A", "Z", "C", "Abcdefgh", "ABCDEFGH", "Zzzzzzzz", "INT", "Inte", "In", "I", "IntInt", "Let", "Data", "InT"}
}

func badCons() []string {
	return append(everyKeyword(), "Int", "", "Abcdefghi", strings.Repeat("A", 1000), "x", "xY", "abcdefgh", "int", "1", "C1", "1C", "C_", "_", "_C", "C D", " C", "C ", "C\n", "(C)", "C'", "C.", "@", "`", "[", "C\x00", "\x00", "\u00c9", "C\u00e9", "\xff", "C\xff", "\u0410", "Ａ", "C\u212a")
}

func TestTidyNames(t *testing.T) {
	e := aNum(1)
	about := func(s string) []impl.Node {
		return []impl.Node{aVar(s), aFun(s, e), aLet(s, e, e), aRec(s, "x", e, e), aRec("f", s, e, e), aRec(s, s, e, e)}
	}
	for _, s := range goodNames() {
		for _, n := range about(s) {
			wantTidyMain(t, n)
		}
		wantTidyPattern(t, varPat(s))
		if _, bad := impl.Parse(s); bad != -1 {
			t.Errorf("%q is no name", s)
		}
	}
	for _, s := range badNames() {
		for _, n := range about(s) {
			wantUntidyMain(t, n)
		}
		wantUntidyPattern(t, varPat(s))
	}
}

func TestTidyCons(t *testing.T) {
	progs := func(s string) []impl.Prog {
		return []impl.Prog{
			{Datas: []impl.Data{oneData(s, 0, oneCon("C"))}, Main: aNum(1)},
			{Datas: []impl.Data{oneData("D", 0, oneCon("C")), oneData(s, 2, oneCon("C"))}, Main: aNum(1)},
			{Datas: []impl.Data{oneData("D", 0, oneCon(s))}, Main: aNum(1)},
			{Datas: []impl.Data{oneData("D", 0, oneCon("C"), oneCon(s, intTy()))}, Main: aNum(1)},
			{Datas: []impl.Data{oneData("D", 0, oneCon(s, intTy()), oneCon("C"))}, Main: aNum(1)},
		}
	}
	for _, s := range goodCons() {
		wantTidyMain(t, aCon(s))
		wantTidyMain(t, aCon(s, aNum(1), aCon(s)))
		wantTidyPattern(t, conPat(s))
		wantTidyPattern(t, conPat(s, anyPat()))
		wantTidyTy(t, dataTy(s))
		wantTidyTy(t, dataTy(s, varTy(1)))
		for _, p := range progs(s) {
			wantTidy(t, p)
		}
	}
	for _, s := range badCons() {
		wantUntidyMain(t, aCon(s))
		wantUntidyMain(t, aCon(s, aNum(1)))
		wantUntidyPattern(t, conPat(s))
		wantUntidyPattern(t, conPat(s, anyPat()))
		wantUntidyTy(t, dataTy(s))
		wantUntidyTy(t, dataTy(s, varTy(1)))
		for _, p := range progs(s) {
			wantUntidy(t, p)
		}
	}
}

func TestTidyNumbers(t *testing.T) {
	for _, n := range []int{0, 1, 2, 10, 999999999, greatest - 1, greatest} {
		wantTidyMain(t, aNum(n))
		wantTidyPattern(t, numPat(n))
	}
	for _, n := range []int{-1, -2, least, least - 1, greatest + 1, greatest + 2, circle, 1 << 40, 1<<63 - 1, -1 << 63} {
		wantUntidyMain(t, aNum(n))
		wantUntidyPattern(t, numPat(n))
	}
}

// What an op does not name is zero or empty.
func TestTidyWhatIsNotNamed(t *testing.T) {
	e, p := aNum(1), anyPat()
	good := []impl.Node{e, aVar("x"), aFun("x", e), anApp(e, e), aLet("x", e, e), aRec("f", "x", e, e), node(impl.NdCase, e, anAlt(p, e)), node(impl.NdIf, e, e, e), node(impl.NdAdd, e, e),
		node(impl.NdSub, e, e), node(impl.NdMul, e, e), node(impl.NdLess, e, e), node(impl.NdSame, e, e), aCon("C"), aCon("C", e), node(impl.NdPut, e), anAlt(p, e), p, varPat("x"), numPat(1), conPat("C"), conPat("C", p)}
	want := func(n impl.Node, tidy bool) {
		t.Helper()
		switch {
		case n.Op == impl.NdAlt && !tidy:
			wantUntidyMain(t, node(impl.NdCase, e, n))
			wantUntidyMain(t, node(impl.NdCase, e, anAlt(p, e), n))
		case n.Op == impl.NdAlt:
			wantTidyMain(t, node(impl.NdCase, e, n))
		case n.Op >= impl.PtAny && tidy:
			wantTidyPattern(t, n)
		case n.Op >= impl.PtAny:
			wantUntidyPattern(t, n)
		case tidy:
			wantTidyMain(t, n)
		default:
			wantUntidyMain(t, n)
		}
	}
	for _, n := range good {
		want(n, true)
		for _, number := range []int{1, -1, 1 << 40} {
			turned := n
			turned.N = number
			want(turned, (n.Op == impl.NdNum || n.Op == impl.PtNum) && number == 1)
		}
		for _, text := range []string{"x", "C", "Int", "let", " ", "\x00"} {
			turned := n
			turned.S = text
			isName := text == "x" && n.S != "" && n.Op != impl.NdCon && n.Op != impl.PtCon
			want(turned, isName || text == "C" && (n.Op == impl.NdCon || n.Op == impl.PtCon))
			turned = n
			turned.T = text
			want(turned, n.Op == impl.NdRec && text == "x")
		}
		for _, turn := range []func(n *impl.Node){func(n *impl.Node) { n.S = "" }, func(n *impl.Node) { n.T = "" }} {
			turned := n
			turn(&turned)
			want(turned, turned.S == n.S && turned.T == n.T)
		}
	}
}

func TestTidyDatas(t *testing.T) {
	data := func(vars int, cons ...impl.Con) impl.Prog {
		return impl.Prog{Datas: []impl.Data{oneData("P", 0, oneCon("P")), oneData("D", vars, cons...), oneData("Q", 1, oneCon("Q", varTy(0)))}, Main: aNum(1)}
	}
	c := oneCon("C")
	for _, vars := range []int{0, 1, 2, 25, 26} {
		wantTidy(t, data(vars, c))
		wantTidy(t, data(vars, c, c, oneCon("E", intTy())))
		wantUntidy(t, data(vars))
		for n := range vars {
			wantTidy(t, data(vars, oneCon("C", varTy(n))))
			wantTidy(t, data(vars, c, oneCon("C", intTy(), funTy(intTy(), dataTy("L", varTy(n))))))
		}
		for _, n := range []int{vars, vars + 1, 26, 27, -1, -26, 1 << 40, -1 << 63} {
			wantUntidy(t, data(vars, oneCon("C", varTy(n))))
			wantUntidy(t, data(vars, c, oneCon("C", intTy(), funTy(intTy(), dataTy("L", varTy(n))))))
		}
	}
	for _, vars := range []int{-1, -2, -1 << 63, 27, 28, 52, 1 << 40, 1<<63 - 1} {
		wantUntidy(t, data(vars, c))
		wantUntidy(t, data(vars, oneCon("C", varTy(0))))
		wantUntidy(t, data(vars))
	}
	wantTidy(t, impl.Prog{Main: aNum(1)})
	wantTidy(t, impl.Prog{Datas: []impl.Data{}, Main: aNum(1)})
	wantUntidy(t, impl.Prog{Datas: []impl.Data{{}}, Main: aNum(1)})
	wantUntidy(t, impl.Prog{Datas: []impl.Data{oneData("D", 0, impl.Con{})}, Main: aNum(1)})
}

func TestTidyTypes(t *testing.T) {
	i, a := intTy(), varTy(0)
	for _, good := range []impl.Ty{i, a, varTy(1), dataTy("L"), dataTy("L", i), dataTy("L", a, i, funTy(a, a)), funTy(a, i), {Op: impl.TyInt, Kids: []impl.Ty{}}} {
		wantTidyTy(t, good)
	}
	fun := func(kids ...impl.Ty) impl.Ty { return impl.Ty{Op: impl.TyFun, Kids: kids} }
	for _, bad := range []impl.Ty{{}, {Op: -1}, {Op: 5}, {Op: 5, S: "C"}, {Op: 1 << 40}, {Op: 5, Kids: []impl.Ty{i, i}}, fun(), fun(i), fun(i, i, i), fun(i, impl.Ty{}), fun(impl.Ty{}, i),
		{Op: impl.TyInt, N: 1}, {Op: impl.TyInt, N: -1}, {Op: impl.TyInt, S: "Int"}, {Op: impl.TyInt, S: "x"}, {Op: impl.TyInt, Kids: []impl.Ty{i}},
		{Op: impl.TyVar, N: 2}, {Op: impl.TyVar, N: -1}, {Op: impl.TyVar, S: "a"}, {Op: impl.TyVar, S: "C"}, {Op: impl.TyVar, Kids: []impl.Ty{i}},
		{Op: impl.TyFun, N: 1, Kids: []impl.Ty{i, i}}, {Op: impl.TyFun, S: "C", Kids: []impl.Ty{i, i}},
		{Op: impl.TyData}, {Op: impl.TyData, N: 1, S: "C"}, {Op: impl.TyData, N: -1, S: "C", Kids: []impl.Ty{i}}, {Op: impl.TyData, Kids: []impl.Ty{i}}} {
		wantUntidyTy(t, bad)
	}
}

// chain puts so many of a form about a node.
func chain(many int, n impl.Node, about func(impl.Node) impl.Node) impl.Node {
	for range many {
		n = about(n)
	}
	return n
}

func TestTidyDeep(t *testing.T) {
	e := aNum(1)
	forms := []func(impl.Node) impl.Node{
		func(n impl.Node) impl.Node { return aFun("x", n) }, func(n impl.Node) impl.Node { return anApp(n, e) }, func(n impl.Node) impl.Node { return anApp(e, n) },
		func(n impl.Node) impl.Node { return aLet("x", n, e) }, func(n impl.Node) impl.Node { return aLet("x", e, n) }, func(n impl.Node) impl.Node { return aRec("f", "x", n, e) },
		func(n impl.Node) impl.Node { return aRec("f", "x", e, n) }, func(n impl.Node) impl.Node { return node(impl.NdIf, n, e, e) }, func(n impl.Node) impl.Node { return node(impl.NdIf, e, n, e) },
		func(n impl.Node) impl.Node { return node(impl.NdIf, e, e, n) }, func(n impl.Node) impl.Node { return node(impl.NdSub, n, e) }, func(n impl.Node) impl.Node { return node(impl.NdSame, e, n) },
		func(n impl.Node) impl.Node { return aCon("C", n) }, func(n impl.Node) impl.Node { return aCon("C", e, n, e) }, func(n impl.Node) impl.Node { return node(impl.NdPut, n) },
	}
	for _, form := range forms {
		for _, leaf := range []impl.Node{e, aVar("x"), aCon("C")} {
			wantTidyMain(t, chain(treeDeep-2, leaf, form))
			wantTidyMain(t, chain(treeDeep-1, leaf, form))
			wantUntidy(t, onlyMain(chain(treeDeep, leaf, form)))
			wantUntidy(t, onlyMain(chain(treeDeep+1, leaf, form)))
			wantUntidy(t, onlyMain(chain(1000, leaf, form)))
		}
		holdWritten(t, onlyMain(chain(treeDeep-1, e, form)))
	}
	// The innermost alternative is one deeper than what is asked beside it.
	asked := func(n impl.Node) impl.Node { return node(impl.NdCase, n, anAlt(anyPat(), e)) }
	wantTidyMain(t, chain(treeDeep-2, e, asked))
	wantUntidy(t, onlyMain(chain(treeDeep-1, e, asked)))
	wantTidyMain(t, chain(treeDeep-2, aFun("x", e), asked))
	wantUntidy(t, onlyMain(chain(treeDeep-2, aFun("x", aFun("y", e)), asked)))
	body := func(n impl.Node) impl.Node {
		return node(impl.NdCase, e, anAlt(anyPat(), e), anAlt(anyPat(), n), anAlt(anyPat(), e))
	}
	wantTidyMain(t, chain(11, aFun("x", e), body))
	wantUntidy(t, onlyMain(chain(12, e, body)))
	wantUntidy(t, onlyMain(chain(11, aFun("x", aFun("y", e)), body)))
}

func TestTidyDeepPatterns(t *testing.T) {
	forms := []func(impl.Node) impl.Node{
		func(n impl.Node) impl.Node { return conPat("C", n) }, func(n impl.Node) impl.Node { return conPat("C", anyPat(), n, anyPat()) }}
	for _, form := range forms {
		for _, leaf := range []impl.Node{anyPat(), varPat("x"), numPat(1), conPat("C")} {
			// The case and the alternative are about the pattern.
			wantTidyMain(t, caseOfPattern(chain(treeDeep-3, leaf, form)))
			wantUntidy(t, onlyMain(caseOfPattern(chain(treeDeep-2, leaf, form))))
			wantTidyMain(t, aFun("x", caseOfPattern(chain(treeDeep-4, leaf, form))))
			wantUntidy(t, onlyMain(aFun("x", caseOfPattern(chain(treeDeep-3, leaf, form)))))
			wantUntidy(t, onlyMain(caseOfPattern(chain(treeDeep, leaf, form))))
			wantUntidy(t, onlyMain(caseOfPattern(chain(1000, leaf, form))))
		}
	}
}

func TestTidyDeepTypes(t *testing.T) {
	i := intTy()
	forms := []func(impl.Ty) impl.Ty{
		func(ty impl.Ty) impl.Ty { return funTy(ty, i) }, func(ty impl.Ty) impl.Ty { return funTy(i, ty) },
		func(ty impl.Ty) impl.Ty { return dataTy("L", ty) }, func(ty impl.Ty) impl.Ty { return dataTy("L", i, ty, i) }}
	deep := func(many int, leaf impl.Ty, form func(impl.Ty) impl.Ty) impl.Prog {
		for range many {
			leaf = form(leaf)
		}
		return aData(i, leaf)
	}
	for _, form := range forms {
		for _, leaf := range []impl.Ty{i, varTy(1), dataTy("D")} {
			wantTidy(t, deep(treeDeep-2, leaf, form))
			wantTidy(t, deep(treeDeep-1, leaf, form))
			holdWritten(t, deep(treeDeep-1, leaf, form))
			wantUntidy(t, deep(treeDeep, leaf, form))
			wantUntidy(t, deep(treeDeep+1, leaf, form))
			wantUntidy(t, deep(1000, leaf, form))
		}
	}
	both := deep(treeDeep-1, i, forms[0])
	both.Main = chain(treeDeep-1, aNum(1), func(n impl.Node) impl.Node { return aFun("x", n) })
	wantTidy(t, both)
}

// Trees without end, and such as come back to themselves, are too deep, and the answer comes.
func TestTidyOfTreesWithoutEnd(t *testing.T) {
	ty, long, pattern := intTy(), aNum(1), anyPat()
	for range 1000000 {
		ty, long, pattern = funTy(ty, intTy()), aFun("x", long), conPat("C", pattern)
	}
	for _, p := range []impl.Prog{aData(ty), onlyMain(long), onlyMain(caseOfPattern(pattern))} {
		if impl.Tidy(p) || impl.Write(p) != "" {
			t.Error("a million within each other are tidy")
		}
	}
	round := make([]impl.Node, 1)
	round[0] = impl.Node{Op: impl.NdPut, Kids: round}
	again := make([]impl.Ty, 1)
	again[0] = dataTy("L", again...)
	again[0].Kids = again
	for _, p := range []impl.Prog{onlyMain(round[0]), aData(again[0])} {
		if impl.Tidy(p) || impl.Write(p) != "" {
			t.Error("what comes back to itself is tidy")
		}
	}
}

// Tidy is what Parse may tell: programs that are turned at a spot or two are held against Parse itself.
func TestTidyOfTurnedPrograms(t *testing.T) {
	s := steps(31)
	tidy, untidy := 0, 0
	for range 20000 {
		p := s.randomProg(1 + s.below(4))
		for left := 1 + s.below(2); left > 0; left-- {
			s.turned(&p)
		}
		want := tidyBy(p)
		if got := impl.Tidy(p); got != want {
			t.Fatalf("Tidy(%s) is %v", toldProg(p), got)
		}
		if want {
			holdWritten(t, p)
			tidy++
		} else {
			wantUntidy(t, p)
			untidy++
		}
	}
	if tidy < 2000 || untidy < 10000 {
		t.Errorf("the programs are too much alike: %d are tidy, %d are not", tidy, untidy)
	}
}

// Nothing is written into what is given, nor behind it; a text shares no memory with it.
func TestTextsAreNewMemory(t *testing.T) {
	s := steps(41)
	for range 500 {
		p := s.randomProg(1 + s.below(5))
		if s.below(3) == 0 {
			s.turned(&p)
		}
		p = withRoom(p)
		before := toldWithRoom(p)
		var lists, texts pieces
		addProg(&lists, &texts, p)
		answers := []string{impl.Write(p)}
		for _, ty := range spotsOf(&p).types {
			answers = append(answers, impl.TyText(*ty))
		}
		impl.Tidy(p)
		for _, text := range answers {
			begin := uintptr(unsafe.Pointer(unsafe.StringData(text)))
			for _, part := range texts.list {
				if part.begin < begin+uintptr(len(text)) && begin < part.end {
					t.Fatalf("%q shares memory with what it is the text of", text)
				}
			}
		}
		if toldWithRoom(p) != before {
			t.Fatalf("%s was written into", before)
		}
		if impl.Write(p) != answers[0] {
			t.Fatalf("asked again, Write(%s) is another one", before)
		}
	}
}

// withRoom is the program with texts of its own and with room behind each list, in which something stands.
func withRoom(p impl.Prog) impl.Prog {
	var datas []impl.Data
	for _, d := range p.Datas {
		var cons []impl.Con
		for _, c := range d.Cons {
			cons = append(cons, impl.Con{Name: strings.Clone(c.Name), Args: typesWithRoom(c.Args)})
		}
		datas = append(datas, impl.Data{Name: strings.Clone(d.Name), Vars: d.Vars, Cons: roomBehind(cons, oneCon("Room"))})
	}
	return impl.Prog{Datas: roomBehind(datas, oneData("Room", 3)), Main: nodeWithRoom(p.Main)}
}

func roomBehind[T any](list []T, room T) []T {
	return append(append([]T{}, list...), room, room)[:len(list)]
}

func typesWithRoom(list []impl.Ty) []impl.Ty {
	var types []impl.Ty
	for _, ty := range list {
		types = append(types, impl.Ty{Op: ty.Op, N: ty.N, S: strings.Clone(ty.S), Kids: typesWithRoom(ty.Kids)})
	}
	return roomBehind(types, varTy(77))
}

func nodeWithRoom(n impl.Node) impl.Node {
	var kids []impl.Node
	for _, kid := range n.Kids {
		kids = append(kids, nodeWithRoom(kid))
	}
	return impl.Node{Op: n.Op, N: n.N, S: strings.Clone(n.S), T: strings.Clone(n.T), Kids: roomBehind(kids, aNum(77))}
}

// toldWithRoom tells the program as it is with what stands in the room behind its lists.
func toldWithRoom(p impl.Prog) string {
	var b strings.Builder
	for _, d := range p.Datas[:cap(p.Datas)] {
		b.WriteString(toldProg(impl.Prog{Datas: []impl.Data{{Name: d.Name, Vars: d.Vars, Cons: d.Cons[:cap(d.Cons)]}}}))
		for _, c := range d.Cons[:cap(d.Cons)] {
			b.WriteString(c.Name + toldTyWithRoom(impl.Ty{Kids: c.Args}))
		}
	}
	return b.String() + toldNodeWithRoom(p.Main)
}

func toldTyWithRoom(t impl.Ty) string {
	text := toldTy(impl.Ty{Op: t.Op, N: t.N, S: t.S})
	for _, kid := range t.Kids[:cap(t.Kids)] {
		text += toldTyWithRoom(kid)
	}
	return text + "."
}

func toldNodeWithRoom(n impl.Node) string {
	text := told(impl.Node{Op: n.Op, N: n.N, S: n.S, T: n.T})
	for _, kid := range n.Kids[:cap(n.Kids)] {
		text += toldNodeWithRoom(kid)
	}
	return text + "."
}
