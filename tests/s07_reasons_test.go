package tests

import (
	"slices"
	"strconv"
	"testing"

	"loop.example/g00323/impl"
)

// sized is an expression without names whose type is of that size.
func sized(size int) impl.Node {
	switch size {
	case 1:
		return aNum(1)
	case 2:
		return aCon("B", aNum(1))
	}
	return aCon("P", sized((size-1)/2), sized(size-1-(size-1)/2))
}

// sizedPat is a pattern likewise, sizedTy its type.
func sizedPat(size int) impl.Node {
	switch size {
	case 1:
		return numPat(1)
	case 2:
		return conPat("B", numPat(1))
	}
	return conPat("P", sizedPat((size-1)/2), sizedPat(size-1-(size-1)/2))
}

func sizedTy(size int) impl.Ty {
	switch size {
	case 1:
		return intTy()
	case 2:
		return dataTy("B", intTy())
	}
	return dataTy("P", sizedTy((size-1)/2), sizedTy(size-1-(size-1)/2))
}

func caseOf(asked impl.Node, alts ...impl.Node) impl.Node {
	return node(impl.NdCase, append([]impl.Node{asked}, alts...)...)
}

// bySize is one code of a size that a type may have, and another one of a larger size.
func bySize(size, fits, passes int) int {
	if size <= tyMost {
		return fits
	}
	return passes
}

func TestSizesBehindANode(t *testing.T) {
	misfit := anApp(aNum(1), aNum(2))
	for size := tyMost - 1; size <= tyMost+1; size++ {
		pattern := anAlt(sizedPat(size), aNum(1))
		f := aRec("f", "x", caseOf(aVar("x"), anAlt(sizedPat(90), sized(size-91))), aVar("f"))
		for _, n := range []impl.Node{sized(size), aFun("x", sized(size-2)), aFun("x", aFun("y", sized(size-4))), aLet("x", sized(size), aNum(1)), aLet("x", aNum(1), sized(size)), aCon("P", sized(100), sized(size-101)),
			caseOf(sized(size), anAlt(anyPat(), aNum(1))), caseOf(sized(min(size, tyMost)), pattern), f} {
			wantHow(t, withDatas(n), bySize(size, impl.IfDone, impl.IfMany))
			if size > tyMost {
				// It goes wrong where it stands: ahead of what stands behind it, and behind what stands ahead of it.
				wantCode(t, withDatas(aCon("P", n, aVar("q"))), impl.IfMany)
				wantCode(t, withDatas(aCon("P", n, misfit)), impl.IfMany)
				wantCode(t, withDatas(node(impl.NdAdd, n, aVar("q"))), impl.IfMany)
				wantCode(t, withDatas(aCon("P", aVar("q"), n)), impl.IfName)
				wantCode(t, withDatas(aCon("P", misfit, n)), impl.IfType)
			}
		}
		// A pattern by itself is too large ahead of what it is made alike.
		wantCode(t, withDatas(caseOf(aNum(1), pattern)), bySize(size, impl.IfType, impl.IfMany))
		wantCode(t, withDatas(caseOf(aNum(1), anAlt(sizedPat(size), aVar("q")))), bySize(size, impl.IfType, impl.IfMany))
	}
}

// What is made alike is too large: that is Unify's to tell.
func TestSizesThatAreMadeAlike(t *testing.T) {
	ignores := aFun("x", aNum(1))
	for size := tyMost - 5; size <= tyMost; size++ {
		want := bySize(size+2, impl.IfDone, impl.IfType)
		for _, n := range []impl.Node{anApp(ignores, sized(size)), aLet("f", ignores, anApp(aVar("f"), sized(size)))} {
			wantHow(t, withDatas(n), want)
			wantCode(t, withDatas(aCon("P", n, aVar("q"))), max(want, impl.IfName))
		}
		wantCode(t, withDatas(aFun("g", aLet("x", anApp(aVar("g"), sized(size)), aVar("q")))), max(want, impl.IfName))
		if want == impl.IfDone {
			want = bySize(size+4, impl.IfDone, impl.IfMany) // the function that takes g
		}
		wantCode(t, withDatas(aFun("g", anApp(aVar("g"), sized(size)))), want)
	}
}

// All is right behind each node, and what is found behind it makes a type too large: that is told at the end, ahead of nothing.
func TestSizesAtTheEnd(t *testing.T) {
	same := aFun("x", aVar("x"))
	for half := 97; half <= 101; half++ {
		want := bySize(2*half+1, impl.IfDone, impl.IfMany)
		// The function takes and gives half.
		twice := anApp(same, sized(half))
		wantHow(t, withDatas(twice), want)
		wantCode(t, withDatas(aLet("x", twice, aNum(1))), want)
		wantCode(t, withDatas(aLet("x", aNum(1), twice)), want)
		wantCode(t, withDatas(caseOf(aNum(1), anAlt(numPat(0), aNum(2)), anAlt(anyPat(), caseOf(twice, anAlt(anyPat(), aNum(3)))))), want)
		for _, later := range []impl.Node{aVar("q"), aCon("U", aNum(1)), caseOf(aNum(1), anAlt(conPat("Q"), aNum(1)))} {
			wantCode(t, withDatas(aLet("x", twice, later)), impl.IfName)
		}
		wantCode(t, withDatas(aLet("x", twice, anApp(aNum(1), aNum(2)))), impl.IfType)
		// A name is for all, and each use of it is of one type.
		wantHow(t, withDatas(aLet("i", same, anApp(aVar("i"), sized(half)))), want)
		wantCode(t, withDatas(aRec("i", "x", aVar("x"), anApp(aVar("i"), sized(half)))), want)
	}
}

// Two lists, whose items are not known when they become a pair, are known behind that.
func TestSizesThatGrowLater(t *testing.T) {
	for _, half := range []int{98, 99, 100, 101, 150} {
		size := 2*half + 1
		grow := func(name string, then impl.Node) impl.Node {
			return caseOf(aVar(name), anAlt(conPat("C", sizedPat(half-1), anyPat()), then))
		}
		grown := func(last impl.Node) impl.Prog {
			pair := aLet("d", aCon("P", aVar("x"), aVar("y")), grow("x", grow("y", last)))
			return withDatas(caseOf(aCon("N"), anAlt(varPat("x"), caseOf(aCon("N"), anAlt(varPat("y"), pair)))))
		}
		wantHow(t, grown(aNum(1)), bySize(size, impl.IfDone, impl.IfMany))
		wantCode(t, grown(aVar("q")), impl.IfName)
		wantCode(t, grown(aVar("d")), bySize(size, impl.IfDone, impl.IfMany))
		// The name is met when its type is too large by then.
		wantCode(t, grown(aCon("P", aVar("d"), aVar("q"))), bySize(size, impl.IfName, impl.IfMany))
		wantCode(t, grown(anApp(aVar("d"), aVar("q"))), bySize(size, impl.IfName, impl.IfMany))
		wantCode(t, grown(anApp(aVar("d"), aNum(1))), bySize(size, impl.IfType, impl.IfMany))
	}
}

// A function of itself may be of a type that is too large, as long as no node is.
func TestFunctionsThatNoNodeIs(t *testing.T) {
	for _, half := range []int{99, 100, tyMost} {
		size := 2*half + 1
		first := caseOf(aVar("x"), anAlt(sizedPat(half), sized(half)))
		unused := withDatas(aRec("f", "x", first, aNum(1)))
		wantHow(t, unused, impl.IfDone)
		if got, _ := impl.Infer(unused); sizeBy(got.Inst[0]) != half || sizeBy(got.Kids[0].Ty) != half {
			t.Errorf("a function that takes and gives %d takes %d and gives %d", half, sizeBy(got.Inst[0]), sizeBy(got.Kids[0].Ty))
		}
		wantCode(t, withDatas(aRec("f", "x", first, aVar("f"))), bySize(size, impl.IfDone, impl.IfMany))
		wantCode(t, withDatas(aRec("f", "x", first, aLet("y", aVar("f"), aVar("q")))), bySize(size, impl.IfName, impl.IfMany))
		// It is met ahead of what makes it large.
		wantCode(t, withDatas(aRec("f", "x", aLet("g", aVar("f"), first), aNum(1))), bySize(size, impl.IfDone, impl.IfMany))
		wantCode(t, withDatas(aRec("f", "x", aLet("g", aVar("f"), first), aVar("q"))), impl.IfName)
		// A pattern stands for it: that Bind would be too large.
		wantCode(t, withDatas(aRec("f", "x", caseOf(aVar("f"), anAlt(anyPat(), first)), aVar("q"))), bySize(size, impl.IfName, impl.IfType))
	}
}

// A con's type may be too large to be made alike anything: that is told behind its kid, and only where the con is used.
func TestConsOfLargeTypes(t *testing.T) {
	unknown := func(last impl.Node) impl.Node {
		return aRec("f", "x", anApp(aVar("f"), aVar("x")), aLet("k", aCon("K", anApp(aVar("f"), aNum(1))), last))
	}
	for size := tyMost - 3; size <= tyMost+3; size++ {
		datas := append(datasOf(someData), oneData("K", 0, oneCon("J"), oneCon("K", sizedTy(size))))
		prog := func(n impl.Node) impl.Prog { return impl.Prog{Datas: datas, Main: n} }
		wantHow(t, prog(aCon("J")), impl.IfDone)
		wantHow(t, prog(aCon("K", aNum(1))), impl.IfType)
		wantHow(t, prog(aCon("K", aVar("q"))), impl.IfName)
		wantHow(t, prog(unknown(aVar("q"))), bySize(size, impl.IfName, impl.IfType))
		want := bySize(size+2, impl.IfDone, impl.IfMany) // f as it is used
		if size > tyMost {
			want = impl.IfType
		}
		wantHow(t, prog(unknown(aNum(1))), want)
		wantHow(t, prog(caseOf(aCon("J"), anAlt(conPat("K", anyPat()), aNum(1)))), bySize(size, impl.IfDone, impl.IfType))
		wantHow(t, prog(caseOf(aCon("J"), anAlt(conPat("K", conPat("Q")), aNum(1)))), impl.IfName)
	}
	huge := varTy(0)
	for range treeDeep - 4 {
		huge = funTy(huge, huge)
	}
	datas := []impl.Data{oneData("K", 1, oneCon("J"), oneCon("K", huge))}
	for _, c := range []struct {
		n    impl.Node
		want int
	}{{aCon("J"), impl.IfDone}, {aFun("x", aCon("K", aVar("x"))), impl.IfType}, {aCon("K", aVar("q")), impl.IfName}, {caseOf(aCon("J"), anAlt(conPat("K", anyPat()), aNum(1))), impl.IfType}} {
		if _, how := impl.Infer(impl.Prog{Datas: datas, Main: c.n}); how != c.want {
			t.Errorf("with a con of a type of more than a million %s is %d, not %d", told(c.n), how, c.want)
		}
	}
}

// behindVars takes so many new vars, at least one, ahead of an expression of an Int, and none behind it.
func behindVars(many int, last impl.Node) impl.Node {
	n := caseOf(aNum(1))
	for range many - 1 {
		n.Kids = append(n.Kids, anAlt(anyPat(), aNum(1)))
	}
	n.Kids = append(n.Kids, anAlt(numPat(1), last))
	return n
}

func TestManyNewVars(t *testing.T) {
	for src, vars := range map[string]int{
		"1": 0, "(fun x -> x) 1": 2, "let i = fun x -> fun y -> x in i 1 2": 6, "let i = fun x -> x in 1": 1, "rec f x = x in 1": 2, "rec f x = x in f 1": 4, "case P 1 2 of { _ -> 1 }": 4, "case P 1 2 of { P _ x -> x }": 7, "case 1 of { x -> x }": 2,
		"case N of { N -> 1 }": 3, "case U of { U -> 1 }": 1, "let n = N in let m = n in case m of { _ -> 1 }": 5, "if 1 then 2 else put 3 + 4": 0, "case B 1 of { B x -> 1; B y -> 2 }": 6,
	} {
		last := progOf(src).Main
		if n := newVarsOf(last); n != vars {
			t.Errorf("%s takes %d new vars, not %d", src, n, vars)
		}
		for _, more := range []int{-1, 0, 1, 2} {
			want := impl.IfDone
			if more > 0 {
				want = impl.IfMany
			}
			if vars+more > 0 || want == impl.IfDone {
				wantCode(t, withDatas(behindVars(varsMost+more-vars, last)), want)
			}
		}
		// Each one of its new vars may be the one that is too many.
		for left := range vars {
			wantCode(t, withDatas(behindVars(varsMost-left, last)), impl.IfMany)
		}
	}
}

// newVarsOf asks the second telling.
func newVarsOf(n impl.Node) int {
	k := seeker{datas: datasOf(someData)}
	k.seek(n, nil)
	return k.vars
}

// wide is a data with a con of so many types, all Int.
func wide(many int) []impl.Data {
	return append(datasOf(someData), oneData("W", 0, oneCon("W", slices.Repeat([]impl.Ty{intTy()}, many)...)))
}

func TestManyNewVarsOfEachKind(t *testing.T) {
	names := conPat("W")
	for i := range varsMost {
		names.Kids = append(names.Kids, varPat("v"+letters(i)))
	}
	for _, more := range []int{0, 1} {
		want := []int{impl.IfDone, impl.IfMany}[more]
		many := varsMost + more
		kids := func(each impl.Node, vars, ahead int) impl.Prog {
			left := (many - ahead) / vars
			list := slices.Repeat([]impl.Node{each}, left)
			for range many - ahead - left*vars {
				list = append(list, aLet("x", aFun("x", aVar("x")), aNum(1)))
			}
			return impl.Prog{Datas: wide(len(list)), Main: aCon("W", list...)}
		}
		wantCode(t, kids(aLet("x", aFun("x", aVar("x")), aNum(1)), 1, 0), want)
		wantCode(t, kids(anApp(aFun("x", aVar("x")), aNum(1)), 2, 0), want)
		wantCode(t, kids(aRec("f", "x", aVar("x"), aNum(1)), 2, 0), want)
		wantCode(t, kids(aLet("x", aCon("N"), aNum(1)), 1, 0), want)
		wantCode(t, kids(aLet("x", aCon("N"), aLet("y", aVar("x"), aNum(1))), 2, 0), want)
		wantCode(t, kids(caseOf(aNum(1), anAlt(anyPat(), aNum(1))), 2, 0), want)
		wantCode(t, kids(aLet("x", aCon("P", aNum(1), aNum(2)), aNum(1)), 2, 0), want)
		// One pattern with all of them, behind the case's own one.
		all := conPat("W", names.Kids[:many-1]...)
		wantCode(t, impl.Prog{Datas: wide(many - 1), Main: aFun("x", aNum(1))}, impl.IfDone)
		wantCode(t, impl.Prog{Datas: wide(many - 1), Main: caseOf(aCon("W", slices.Repeat([]impl.Node{aNum(1)}, many-1)...), anAlt(all, aVar("va")))}, want)
	}
}

// letters are a text of their own for each number.
func letters(n int) string {
	text := ""
	for _, digit := range strconv.Itoa(n) {
		text += string('a' + digit - '0')
	}
	return text
}

// Where new vars run out, that is told ahead of what would go wrong behind it, and behind what goes wrong ahead of it.
func TestNewVarsThatRunOut(t *testing.T) {
	for src, codes := range map[string][]int{ // with as many new vars left as the place in the list says
		"q":                                  {impl.IfName},
		"1 2":                                {impl.IfMany, impl.IfType},
		"q 1":                                {impl.IfName},
		"1 q":                                {impl.IfName},
		"fun x -> q":                         {impl.IfMany, impl.IfName},
		"fun x -> x x":                       {impl.IfMany, impl.IfMany, impl.IfType},
		"Q":                                  {impl.IfName},
		"B":                                  {impl.IfName},
		"P 1":                                {impl.IfName},
		"P q 1":                              {impl.IfMany, impl.IfMany, impl.IfName},
		"rec f x = q in 1":                   {impl.IfMany, impl.IfMany, impl.IfName},
		"case q of { _ -> 1 }":               {impl.IfName},
		"case 1 of { Q -> 1 }":               {impl.IfMany, impl.IfName},
		"case 1 of { U 1 -> 1 }":             {impl.IfMany, impl.IfName},
		"case 1 of { U -> 1 }":               {impl.IfMany, impl.IfType},
		"case 1 of { _ -> q }":               {impl.IfMany, impl.IfMany, impl.IfName},
		"case 1 of { P x x -> 1 }":           {impl.IfMany, impl.IfMany, impl.IfMany, impl.IfMany, impl.IfName},
		"case 1 of { P x y -> 1 }":           {impl.IfMany, impl.IfMany, impl.IfMany, impl.IfMany, impl.IfMany, impl.IfType},
		"let n = N in P n q":                 {impl.IfMany, impl.IfMany, impl.IfMany, impl.IfMany, impl.IfName},
		"let i = fun x -> x in i i q":        {impl.IfMany, impl.IfMany, impl.IfMany, impl.IfMany, impl.IfName},
		"let k = fun x -> fun y -> x in k q": {impl.IfMany, impl.IfMany, impl.IfMany, impl.IfMany, impl.IfName},
	} {
		last := progOf(src).Main
		for left, want := range codes {
			wantCode(t, withDatas(behindVars(varsMost-left, last)), want)
		}
		wantHow(t, withDatas(last), codes[len(codes)-1])
	}
}

// A mistake is an expression, or a pattern, in which one thing goes wrong.
type mistake struct {
	n    impl.Node
	code int
}

func mistakes() []mistake {
	return []mistake{{aVar("q"), impl.IfName}, {aCon("Q"), impl.IfName}, {aCon("B"), impl.IfName}, {anApp(aNum(1), aNum(2)), impl.IfType}, {node(impl.NdAdd, aNum(1), aCon("U")), impl.IfType}, {sized(tyMost + 1), impl.IfMany}, {caseOf(aCon("P", aNum(1), aNum(1)), anAlt(conPat("P", varPat("x"), varPat("x")), aNum(1))), impl.IfName}}
}

func patternMistakes() []mistake {
	return []mistake{{conPat("Q"), impl.IfName}, {conPat("B"), impl.IfName}, {conPat("P", varPat("x"), varPat("x")), impl.IfName}, {conPat("C", numPat(1), numPat(2)), impl.IfType}, {sizedPat(tyMost + 1), impl.IfMany}}
}

// inTurn are trees with two places for expressions, of which the first one comes first.
func inTurn(a, b impl.Node) []impl.Node {
	one, any := aNum(1), anyPat()
	list := []impl.Node{anApp(a, b), anApp(one, anApp(a, b)), aLet("x", a, b), aLet("x", aFun("y", a), b), aRec("f", "x", a, b), node(impl.NdIf, a, b, one), node(impl.NdIf, a, one, b), node(impl.NdIf, one, a, b), caseOf(a, anAlt(any, b)), caseOf(a, anAlt(any, one), anAlt(any, b)), caseOf(one, anAlt(any, a), anAlt(any, b)),
		aCon("P", a, b), aCon("C", a, b), aCon("P", aCon("B", a), b), aCon("P", one, aCon("P", a, b)), aFun("x", aCon("P", a, aFun("y", b))), aCon("B", node(impl.NdPut, node(impl.NdAdd, a, b)))}
	for op := impl.NdAdd; op <= impl.NdSame; op++ {
		list = append(list, node(op, a, b))
	}
	return list
}

func TestTheFirstMistakeIsTold(t *testing.T) {
	for _, first := range mistakes() {
		for _, second := range mistakes() {
			for _, n := range inTurn(first.n, second.n) {
				wantCode(t, withDatas(n), first.code)
			}
		}
		for _, n := range inTurn(first.n, aNum(1)) {
			wantCode(t, withDatas(n), first.code)
		}
		for _, p := range patternMistakes() {
			wantCode(t, withDatas(caseOf(first.n, anAlt(p.n, aNum(1)))), first.code)
			wantCode(t, withDatas(caseOf(aCon("N"), anAlt(p.n, first.n))), p.code)
			wantCode(t, withDatas(caseOf(aNum(1), anAlt(anyPat(), first.n), anAlt(p.n, aNum(1)))), first.code)
			wantCode(t, withDatas(caseOf(aNum(1), anAlt(p.n, aNum(1)), anAlt(anyPat(), first.n))), p.code)
			wantCode(t, withDatas(aCon("P", caseOf(aNum(1), anAlt(p.n, aNum(1))), first.n)), p.code)
		}
	}
	for _, first := range patternMistakes() {
		for _, second := range patternMistakes() {
			wantCode(t, withDatas(caseOf(aNum(1), anAlt(conPat("P", first.n, second.n), aNum(1)))), first.code)
			wantCode(t, withDatas(caseOf(aNum(1), anAlt(conPat("P", anyPat(), conPat("P", first.n, second.n)), aNum(1)))), first.code)
			wantCode(t, withDatas(caseOf(aNum(1), anAlt(first.n, aNum(1)), anAlt(second.n, aNum(1)))), first.code)
		}
	}
}

// A node's own reason: ahead of its kids', between them, or behind them.
func TestMistakesOfANodeAndOfItsKids(t *testing.T) {
	for _, m := range mistakes() {
		u := aCon("U")
		// What its name, or how many kids it has, tells comes first.
		for _, n := range []impl.Node{aCon("Q", m.n), aCon("B", m.n, aNum(1)), aCon("U", m.n), aCon("P", m.n), aCon("P", aNum(1), aNum(1), m.n)} {
			wantCode(t, withDatas(n), impl.IfName)
		}
		// A kid is made alike ahead of the next one.
		for op := impl.NdAdd; op <= impl.NdSame; op++ {
			wantCode(t, withDatas(node(op, u, m.n)), impl.IfType)
		}
		wantCode(t, withDatas(node(impl.NdIf, u, m.n, aNum(1))), impl.IfType)
		wantCode(t, withDatas(node(impl.NdIf, u, aNum(1), m.n)), impl.IfType)
		wantCode(t, withDatas(aCon("C", aNum(1), aCon("C", u, m.n))), m.code)
		wantCode(t, withDatas(aCon("C", aNum(1), aCon("C", aCon("C", u, u), m.n))), impl.IfType)
		wantCode(t, withDatas(aRec("f", "x", anApp(aVar("f"), aVar("f")), m.n)), impl.IfType)
		wantCode(t, withDatas(aRec("f", "x", aVar("f"), m.n)), impl.IfType)
		wantCode(t, withDatas(caseOf(u, anAlt(numPat(1), m.n))), impl.IfType)
		wantCode(t, withDatas(caseOf(u, anAlt(anyPat(), u), anAlt(numPat(1), m.n))), impl.IfType)
		wantCode(t, withDatas(caseOf(u, anAlt(anyPat(), u), anAlt(anyPat(), aNum(1)), anAlt(anyPat(), m.n))), impl.IfType)
		// What is applied is made alike behind its argument; what is chosen, behind both.
		wantCode(t, withDatas(anApp(u, m.n)), m.code)
		wantCode(t, withDatas(anApp(aNum(1), u, m.n)), impl.IfType)
		wantCode(t, withDatas(node(impl.NdIf, aNum(1), node(impl.NdIf, aNum(1), u, aNum(2)), m.n)), impl.IfType)
		wantCode(t, withDatas(node(impl.NdAdd, node(impl.NdIf, aNum(1), u, m.n), aNum(1))), m.code)
	}
	for _, m := range patternMistakes() {
		wantCode(t, withDatas(caseOf(aNum(1), anAlt(conPat("Q", m.n), aNum(1)))), impl.IfName)
		wantCode(t, withDatas(caseOf(aNum(1), anAlt(conPat("P", m.n), aNum(1)))), impl.IfName)
		wantCode(t, withDatas(caseOf(aNum(1), anAlt(conPat("U", m.n), aNum(1)))), impl.IfName)
		// A pattern is made alike behind all of it, a kid of it ahead of the next one.
		wantCode(t, withDatas(caseOf(aNum(1), anAlt(conPat("P", conPat("U"), m.n), aNum(1)))), m.code)
		wantCode(t, withDatas(caseOf(aNum(1), anAlt(conPat("C", anyPat(), conPat("C", conPat("C", anyPat(), numPat(1)), m.n)), aNum(1)))), impl.IfType)
	}
	// A name that is bound twice goes wrong where it is met again.
	wantHowOf(t, impl.IfName, "case 1 of { P x x -> 1 }", "case 1 of { P x (P x (C 1 2)) -> 1 }", "case P 1 (P 2 3) of { P x (P x 1) -> 1 }")
	wantHowOf(t, impl.IfType, "case 1 of { P x (P (C 1 2) x) -> 1 }", "case 1 of { P (C 1 2) (P x x) -> 1 }")
	wantCode(t, withDatas(caseOf(aNum(1), anAlt(conPat("P", varPat("x"), conPat("P", varPat("x"), sizedPat(tyMost))), aNum(1)))), impl.IfName)
	wantCode(t, withDatas(caseOf(aNum(1), anAlt(conPat("P", varPat("x"), conPat("P", sizedPat(tyMost+1), varPat("x"))), aNum(1)))), impl.IfMany)
}

// wrongProgs are trees that are not tidy, and nothing else is wrong with them.
func wrongProgs() []impl.Prog {
	one := aNum(1)
	var list []impl.Prog
	for _, n := range []impl.Node{{}, {Op: -1}, {Op: 21}, aNum(-1), aNum(greatest + 1), aVar(""), aVar("let"), aFun("X", one), {Op: impl.NdFun, S: "x"}, node(impl.NdApp, aFun("x", one)), node(impl.NdCase, one), anAlt(anyPat(), one), anyPat(), node(impl.NdAdd, one), node(impl.NdAdd, one, one, one), {Op: impl.NdNum, T: "x"}, {Op: impl.NdNum, S: "x"}, {Op: impl.NdNum, Kids: []impl.Node{one}},
		aCon("Int"), aCon("u"), aRec("f", "", one, one), aLet("toolonger", one, one), caseOf(one, one), caseOf(one, anAlt(one, one)), caseOf(one, anAlt(conPat("U", one), one)), chain(treeDeep, one, func(n impl.Node) impl.Node { return aFun("x", n) })} {
		list = append(list, withDatas(n), withDatas(aLet("x", n, one)), withDatas(aFun("x", aFun("y", n))))
	}
	for _, d := range []impl.Data{oneData("A", 0), oneData("Int", 0, oneCon("X")), oneData("a", 0, oneCon("X")), oneData("A", -1, oneCon("X")), oneData("A", 27, oneCon("X")), oneData("A", 0, oneCon("Int")), oneData("A", 0, oneCon("X", varTy(0))), oneData("A", 1, oneCon("X", varTy(1))), oneData("A", 0, oneCon("X", impl.Ty{})), oneData("A", 0, oneCon("X", nested(treeDeep+1, intTy())))} {
		list = append(list, impl.Prog{Datas: []impl.Data{d}, Main: one}, impl.Prog{Datas: append(datasOf(someData), d), Main: one})
	}
	return list
}

func TestWhatIsNotTidyHasNoTypes(t *testing.T) {
	wantHow(t, impl.Prog{}, impl.IfTidy)
	for _, p := range wrongProgs() {
		wantHow(t, p, impl.IfTidy)
		// It counts ahead of all else.
		p.Datas = append(slices.Clone(p.Datas), datasOf("data Z = Z | Z; data Z = Y A B;")...)
		wantHow(t, p, impl.IfTidy)
		for _, m := range mistakes() {
			p.Main = aLet("x", m.n, p.Main)
			if !impl.Tidy(p) {
				wantCode(t, p, impl.IfTidy)
			}
		}
	}
	self := make([]impl.Node, 1)
	self[0] = aFun("x", aNum(1))
	self[0].Kids = self
	if _, how := impl.Infer(onlyMain(self[0])); how != impl.IfTidy {
		t.Errorf("a tree within itself is %d", how)
	}
	ty := make([]impl.Ty, 1)
	ty[0] = impl.Ty{Op: impl.TyData, S: "A", Kids: ty}
	if _, how := impl.Infer(impl.Prog{Datas: []impl.Data{oneData("A", 1, oneCon("X", ty[0]))}, Main: aNum(1)}); how != impl.IfTidy {
		t.Errorf("a type within itself is %d", how)
	}
}

func TestDatasThatAreNotRightHaveNoTypes(t *testing.T) {
	many := impl.Prog{Main: aNum(1)}
	for i := range consMost + 1 {
		many.Datas = append(many.Datas, oneData("D"+letters(i), 0, oneCon("C"+letters(i))))
	}
	wantHow(t, many, impl.IfData)
	wantHow(t, impl.Prog{Datas: many.Datas[1:], Main: aNum(1)}, impl.IfDone)
	for text, code := range map[string]int{"data A = X | X;": impl.DtTwice, "data A = X; data A = Y;": impl.DtTwice, "data A = X; data B = X;": impl.DtTwice, "data A = X B;": impl.DtName, "data A = X (Int -> A -> Q);": impl.DtName, "data A a = X A;": impl.DtMany, "data A = X (A Int);": impl.DtMany, "data A = X Int A | Y A;": impl.DtDone} {
		p, _ := impl.Parse(text + " 1")
		if got := impl.CheckDatas(p.Datas); got != code {
			t.Errorf("CheckDatas of %s is %d, not %d", text, got, code)
		}
		want := impl.IfData
		if code == impl.DtDone {
			want = impl.IfDone
		}
		wantHow(t, p, want)
		wantHow(t, impl.Prog{Datas: append(datasOf(someData), p.Datas...), Main: p.Main}, want)
		for _, m := range mistakes() {
			if code != impl.DtDone {
				wantCode(t, impl.Prog{Datas: append(datasOf(someData), p.Datas...), Main: m.n}, impl.IfData)
			}
		}
	}
}
