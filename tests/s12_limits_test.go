package tests

import (
	"slices"
	"strconv"
	"strings"
	"testing"

	"loop.example/g00323/impl"
)

// wantNotClosed holds that nothing is told.
func wantNotClosed(t *testing.T, p impl.Prog) {
	t.Helper()
	if got, ok := impl.Close(p); ok || len(got) != 0 {
		t.Errorf("Close(%.300s) is %v and %.300s", toldProg(p), ok, toldBlocks(got))
	}
	if _, ok := closeBy(p); ok {
		t.Errorf("the second telling of Close(%.300s) is true", toldProg(p))
	}
}

func TestCloseOfWhatIsNotTidy(t *testing.T) {
	wantNotClosed(t, impl.Prog{})
	for _, p := range wrongProgs() {
		wantNotClosed(t, p)
	}
	deep := func(many int) impl.Prog {
		return onlyMain(chain(many-1, aNum(1), func(n impl.Node) impl.Node { return node(impl.NdPut, n) }))
	}
	if blocks, ok := holdClose(t, deep(treeDeep)); !ok || irSizeBy(blocks[0].Body) != treeDeep {
		t.Errorf("what is as deep as it may be is closed as %s", toldBlocks(blocks))
	}
	wantNotClosed(t, deep(treeDeep+1))
	self := make([]impl.Node, 1)
	self[0] = node(impl.NdPut, aNum(1))
	self[0].Kids = self
	quickly(t, "Close", func() {
		if got, ok := impl.Close(onlyMain(self[0])); ok || len(got) != 0 {
			t.Errorf("a tree within itself is closed as %s", toldBlocks(got))
		}
	})
}

func TestCloseOfDatasThatAreNotRight(t *testing.T) {
	for _, text := range []string{"data A = X | X;", "data A = X; data A = Y;", "data A = X; data B = X;", "data A = X B;", "data A = X (Int -> A -> Q);", "data A a = X A;", "data A = X (A Int);"} {
		for _, main := range []impl.Node{aNum(1), aFun("x", aVar("x")), aCon("X")} {
			wantNotClosed(t, impl.Prog{Datas: datasOf(text), Main: main})
			wantNotClosed(t, impl.Prog{Datas: append(datasOf(evalDatas), datasOf(text)...), Main: main})
		}
	}
	many := onlyMain(aCon("C" + letters(consMost)))
	for i := range consMost + 1 {
		many.Datas = append(many.Datas, oneData("D"+letters(i), 0, oneCon("C"+letters(i))))
	}
	wantNotClosed(t, many)
	many.Datas = many.Datas[1:]
	if blocks, _ := holdClose(t, many); blocksText(blocks) != "0: #59" {
		t.Errorf("the last con of as many as there may be is closed as %s", toldBlocks(blocks))
	}
}

func TestCloseOfWhatHasNoTypes(t *testing.T) {
	for _, m := range mistakes() {
		for _, n := range []impl.Node{m.n, aLet("x", m.n, aNum(1)), aLet("x", aNum(1), m.n), aFun("x", m.n), aRec("f", "x", m.n, aNum(1)), aRec("f", "x", aNum(1), m.n), caseOf(aNum(1), anAlt(numPat(1), m.n), anAlt(anyPat(), m.n)), caseOf(aNum(1), anAlt(anyPat(), m.n)), caseOf(m.n, anAlt(anyPat(), aNum(1)))} {
			wantNotClosed(t, withDatas(n))
		}
		// Also where no tree would come to it.
		wantNotClosed(t, withDatas(caseOf(aNum(1), anAlt(anyPat(), aNum(1)), anAlt(anyPat(), m.n))))
	}
	for _, m := range patternMistakes() {
		wantNotClosed(t, withDatas(caseOf(aCon("N"), anAlt(m.n, aNum(1)), anAlt(anyPat(), aNum(1)))))
		wantNotClosed(t, withDatas(caseOf(aCon("N"), anAlt(anyPat(), aNum(1)), anAlt(m.n, aNum(1)))))
	}
	for _, src := range []string{"1 2", "x", "fun x -> y", "rec f x = fun y -> f in f", "fun x -> x x", "Z", "S", "N 1", "N + 1", "if N then 1 else 2", "let x = x in x", "case x of { x -> x }", "case 1 of { N -> 1 }", "case N of { S x -> x; N -> x }", "(let a = 1 in a) + a", "(rec f x = x in 1) + f 1", "fun f -> rec g x = x in (rec h y = y in 1) + h 1"} {
		wantNotClosed(t, closeProg(src))
	}
}

// wideProg has a con W of so many kids, each of which is this.
func wideProg(many int, kid impl.Node, ty impl.Ty) impl.Prog {
	list := append(datasOf(closeDatas), oneData("W", 0, oneCon("W", slices.Repeat([]impl.Ty{ty}, many)...)))
	return impl.Prog{Datas: list, Main: aCon("W", slices.Repeat([]impl.Node{kid}, many)...)}
}

func wantManyBlocks(t *testing.T, p impl.Prog, want int) {
	t.Helper()
	if want > blocksMost {
		wantNotClosed(t, p)
		return
	}
	if _, blocks := holdRun(t, p); len(blocks) != want {
		t.Errorf("%.300s has %d blocks, not %d", toldProg(p), len(blocks), want)
	}
}

func TestBlocksThatAreMany(t *testing.T) {
	id := funTy(intTy(), intTy())
	one := aFun("x", aVar("x"))
	rec := aRec("f", "x", anApp(aVar("f"), aVar("x")), aVar("f"))
	two := aFun("x", anApp(aFun("y", aVar("x")), aVar("x")))
	for _, many := range []int{0, 1, 28, 29, 30, 57, 58, 59, 60, 61, 100, 500} {
		wantManyBlocks(t, wideProg(many, one, id), many+1)
		wantManyBlocks(t, wideProg(many, rec, id), many+1)
		wantManyBlocks(t, wideProg(many, two, id), 2*many+1)
		// In a function, and behind one.
		p := wideProg(many, one, id)
		p.Main = aFun("z", p.Main)
		wantManyBlocks(t, p, many+2)
		p.Main = aLet("q", two, p.Main)
		wantManyBlocks(t, p, many+4)
	}
}

// A function counts each time that the tree comes to it, and not where it does not.
func TestBlocksOfBodiesThatAreMany(t *testing.T) {
	id := funTy(intTy(), intTy())
	asked := aCon("S", aNum(1))
	for _, many := range []int{1, 28, 29, 30, 31, 57, 58, 59, 60, 61} {
		p := wideProg(many, aFun("x", aVar("x")), id)
		body := p.Main
		other := aCon("W", slices.Repeat([]impl.Node{aVar("h")}, many)...)
		p.Main = aLet("h", aFun("x", aVar("x")), caseOf(asked, anAlt(conPat("S", numPat(1)), other), anAlt(anyPat(), body)))
		wantManyBlocks(t, p, 2+2*many)
		p.Main = caseOf(asked, anAlt(anyPat(), body), anAlt(conPat("N"), body), anAlt(anyPat(), body))
		wantManyBlocks(t, p, 1+many)
		p.Main = aLet("h", aFun("x", aVar("x")), caseOf(asked, anAlt(varPat("y"), other), anAlt(varPat("z"), body)))
		wantManyBlocks(t, p, 2)
		p.Main = caseOf(asked, anAlt(conPat("S", anyPat()), body), anAlt(conPat("N"), body))
		wantManyBlocks(t, p, 1+2*many)
	}
}

func wantManyNodes(t *testing.T, p impl.Prog, block, want int) {
	t.Helper()
	if want > irMost {
		wantNotClosed(t, p)
		return
	}
	blocks, ok := holdClose(t, p)
	if !ok || impl.IrSize(blocks[block].Body) != want {
		t.Errorf("%.300s is closed: %v, with %d nodes in block %d, not %d", toldProg(p), ok, impl.IrSize(blocks[block].Body), block, want)
	}
}

// What is closed is right: where a block would have too many nodes, there are none.
func TestNodesOfBlocksThatAreMany(t *testing.T) {
	for _, many := range []int{0, 1, 997, 998, 999, 1000, 1996, 1997, 1998, 1999, 2000, 2001, 5000} {
		p := wideProg(many, aNum(1), intTy())
		wide := p.Main
		wantManyNodes(t, p, 0, many+1)
		p.Main = aFun("x", wide)
		wantManyNodes(t, p, 1, many+1)
		p.Main = aLet("x", aNum(1), wide)
		wantManyNodes(t, p, 0, many+3)
		// Each block has its own.
		p.Main = aLet("x", wide, aFun("y", wide))
		if many > 1997 {
			wantNotClosed(t, p)
		} else {
			wantManyNodes(t, p, 0, many+3)
			wantManyNodes(t, p, 1, many+1)
		}
		// A body is there as often as the tree comes to it, with fields of its own.
		p.Main = caseOf(aCon("S", aNum(1)), anAlt(conPat("S", numPat(1)), wide), anAlt(anyPat(), aCon("W", slices.Repeat([]impl.Node{aNum(2)}, many)...)))
		wantManyNodes(t, p, 0, 3+2+3+3*(many+1))
		p.Main = caseOf(aCon("S", aNum(1)), anAlt(conPat("S", varPat("x")), aCon("W", slices.Repeat([]impl.Node{aVar("x")}, many)...)))
		wantManyNodes(t, p, 0, 3+2+1+1+2*many)
	}
}

// What is kept is of the block in which the closure is made.
func TestNodesThatAreKept(t *testing.T) {
	names := strings.Split("a b c d e g h i j k l m n o p", " ")
	kid := aFun("x", aCon("V"))
	for _, name := range names {
		kid.Kids[0].Kids = append(kid.Kids[0].Kids, aVar(name))
	}
	kept := oneData("V", 0, oneCon("V", slices.Repeat([]impl.Ty{intTy()}, len(names))...))
	const functions = 50
	for _, more := range []int{0, 1, 1168, 1169, 1170, 2000} {
		types := append(slices.Repeat([]impl.Ty{funTy(intTy(), dataTy("V"))}, functions), slices.Repeat([]impl.Ty{intTy()}, more)...)
		p := impl.Prog{Datas: []impl.Data{kept, oneData("W", 0, oneCon("W", types...))}, Main: aCon("W", append(slices.Repeat([]impl.Node{kid}, functions), slices.Repeat([]impl.Node{aNum(1)}, more)...)...)}
		for _, name := range names {
			p.Main = aLet(name, aNum(1), p.Main)
		}
		// 15 lets with their first kids, W, and 50 closures with 15 each.
		wantManyNodes(t, p, 0, 30+1+functions*16+more)
	}
}

func TestTreesOfClosedCasesThatAreMany(t *testing.T) {
	one := aNum(1)
	for _, many := range []int{1, 2, 148, 149, 150, 151, 400} {
		large := caseOf(one, numberAlts(many)...)
		for i, n := range []impl.Node{large, aFun("x", large), aLet("x", large, one), aLet("x", one, large), aRec("f", "x", large, one), aRec("f", "x", one, large), anApp(aFun("x", one), large), node(impl.NdIf, one, one, large), aCon("S", large), node(impl.NdPut, large), node(impl.NdAdd, large, one), caseOf(large, anAlt(anyPat(), one)), caseOf(one, anAlt(numPat(1), large), anAlt(anyPat(), one)), caseOf(one, anAlt(numPat(1), one), anAlt(anyPat(), large)),
			// No tree comes to it, and yet it is of the program.
			caseOf(one, anAlt(anyPat(), one), anAlt(anyPat(), large))} {
			p := impl.Prog{Datas: datasOf(closeDatas), Main: n}
			if many > 149 {
				wantNotClosed(t, p)
			} else if _, blocks := holdRun(t, p); blocks == nil {
				t.Errorf("%d alternatives at place %d are not closed", many, i)
			}
		}
	}
}

// Programs that are parsed, in which a case is as large as it may be.
func TestCloseOfLongTexts(t *testing.T) {
	var alts []string
	for n := range 149 {
		alts = append(alts, strconv.Itoa(n)+" -> x + "+strconv.Itoa(n))
	}
	text := strings.Join(alts, "; ")
	if _, blocks := holdRun(t, closeProg("let f = fun x -> case x of { "+text+" } in f 148")); len(blocks) != 2 || irSizeBy(blocks[1].Body) != 3+149*(2+3) {
		t.Errorf("a long case is closed as %.300s", toldBlocks(blocks))
	}
	// What comes behind all else makes no tree more, and one more number makes one too many.
	if _, blocks := holdRun(t, closeProg("let f = fun x -> case x of { "+text+"; y -> y; 149 -> 1 } in f 150")); len(blocks) != 2 {
		t.Errorf("a long case that is whole is closed as %.300s", toldBlocks(blocks))
	}
	wantNotClosed(t, closeProg("let f = fun x -> case x of { "+text+"; 149 -> 1; y -> y } in f 150"))
}

// Bodies within bodies, each of which stands in many places: more than can ever be made.
func TestCloseOfBodiesWithinBodies(t *testing.T) {
	var rows []impl.Node
	for n := range 20 {
		rows = append(rows, anAlt(conPat("T", numPat(n), numPat(n), numPat(n)), aNum(n)))
	}
	for _, leaf := range []impl.Node{aNum(1), anApp(aFun("x", aVar("x")), aNum(1)), aVar("a")} {
		p := impl.Prog{Datas: datasOf(closeDatas), Main: leaf}
		for range 9 {
			p.Main = caseOf(aCon("T", aNum(1), aNum(2), aNum(3)), append(slices.Clone(rows), anAlt(varPat("a"), p.Main))...)
		}
		whole := p.Main
		if leaf.Op == impl.NdVar {
			p.Main = aLet("a", aCon("T", aNum(1), aNum(2), aNum(3)), whole)
		}
		quickly(t, "Close", func() {
			if got, ok := impl.Close(p); ok || len(got) != 0 {
				t.Errorf("bodies within bodies are closed as %.300s", toldBlocks(got))
			}
			p.Main = aLet("f", aFun("y", whole), aFun("z", aNum(1)))
			if got, ok := impl.Close(p); ok || len(got) != 0 {
				t.Errorf("in a function, bodies within bodies are closed as %.300s", toldBlocks(got))
			}
		})
	}
	// The same, where the tree comes to each once.
	p := impl.Prog{Datas: datasOf(closeDatas), Main: aNum(1)}
	for range 9 {
		p.Main = caseOf(aCon("T", aNum(1), aNum(2), aNum(3)), anAlt(conPat("T", varPat("x"), varPat("y"), anyPat()), p.Main))
	}
	if _, blocks := holdRun(t, p); len(blocks) != 1 || irSizeBy(blocks[0].Body) != 9*(1+4+2+1)+1 {
		t.Errorf("cases within cases are closed as %s", blocksText(blocks))
	}
}

func TestCloseOfGreatPrograms(t *testing.T) {
	const many = 200000
	wide := wideProg(many, aNum(1), intTy())
	idle := caseOf(aNum(1), anAlt(varPat("x"), aVar("x")))
	idle.Kids = append(idle.Kids, slices.Repeat([]impl.Node{anAlt(numPat(1), aNum(2))}, many)...)
	quickly(t, "Close", func() {
		for i, c := range []struct {
			p    impl.Prog
			want string
		}{{wide, ""}, {impl.Prog{Datas: wide.Datas, Main: aFun("x", aFun("y", aFun("z", wide.Main)))}, ""}, {onlyMain(idle), "0: [1 | l1]"}, {onlyMain(aFun("y", aFun("z", idle))), "0: <1>; 0: <2>; 0: [1 | l1]"}} {
			if got, ok := impl.Close(c.p); ok != (c.want != "") || blocksText(got) != c.want {
				t.Errorf("great program %d is closed as %v and %.300s", i, ok, toldBlocks(got))
			}
		}
	})
}

// More names than a machine could keep are kept all the same, each at its place.
func TestManyNamesThatAreKept(t *testing.T) {
	names := strings.Split("a b c d e g h i j k l m n o p q r s t", " ")
	s := steps(128)
	for range 50 {
		order := slices.Clone(names)
		for i := range order {
			at := s.below(len(order))
			order[i], order[at] = order[at], order[i]
		}
		p := wideProg(2*len(order), aNum(1), intTy())
		p.Main = aCon("W")
		var kept, fields []string
		for i, name := range order {
			p.Main.Kids = append(p.Main.Kids, aVar(name))
			kept = append(kept, "l"+strconv.Itoa(1+slices.Index(names, name)))
			fields = append(fields, "f"+strconv.Itoa(i))
		}
		p.Main.Kids = append(p.Main.Kids, p.Main.Kids...)
		p.Main = aFun("x", p.Main)
		want := "<1 " + strings.Join(kept, " ") + ">"
		for _, name := range slices.Backward(names) {
			p.Main = aLet(name, aNum(7), p.Main)
			want = "[7 | " + want + "]"
		}
		want = "0: " + want + "; " + strconv.Itoa(len(names)) + ": #5(" + strings.Join(append(fields, fields...), ", ") + ")"
		if _, blocks := holdRun(t, p); blocksText(blocks) != want {
			t.Errorf("many names are kept as %s, not %s", blocksText(blocks), want)
		}
	}
}
