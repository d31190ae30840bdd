package tests

import (
	"strconv"
	"strings"

	"loop.example/g00323/impl"
)

// Trees made by hand: what a test wants Parse to tell.

const treeDeep = 24

func node(op int, kids ...impl.Node) impl.Node { return impl.Node{Op: op, Kids: kids} }

func aNum(n int) impl.Node { return impl.Node{Op: impl.NdNum, N: n} }

func aVar(s string) impl.Node { return impl.Node{Op: impl.NdVar, S: s} }

func aFun(s string, e impl.Node) impl.Node {
	return impl.Node{Op: impl.NdFun, S: s, Kids: []impl.Node{e}}
}

func aLet(s string, first, second impl.Node) impl.Node {
	return impl.Node{Op: impl.NdLet, S: s, Kids: []impl.Node{first, second}}
}

func aRec(s, t string, first, second impl.Node) impl.Node {
	return impl.Node{Op: impl.NdRec, S: s, T: t, Kids: []impl.Node{first, second}}
}

func aCon(s string, kids ...impl.Node) impl.Node {
	return impl.Node{Op: impl.NdCon, S: s, Kids: kids}
}

// anApp applies the first one to the others, from the left.
func anApp(list ...impl.Node) impl.Node {
	left := list[0]
	for _, n := range list[1:] {
		left = node(impl.NdApp, left, n)
	}
	return left
}

func anAlt(p, e impl.Node) impl.Node { return node(impl.NdAlt, p, e) }

func anyPat() impl.Node { return impl.Node{Op: impl.PtAny} }

func varPat(s string) impl.Node { return impl.Node{Op: impl.PtVar, S: s} }

func numPat(n int) impl.Node { return impl.Node{Op: impl.PtNum, N: n} }

func conPat(s string, kids ...impl.Node) impl.Node {
	return impl.Node{Op: impl.PtCon, S: s, Kids: kids}
}

func intTy() impl.Ty { return impl.Ty{Op: impl.TyInt} }

func varTy(n int) impl.Ty { return impl.Ty{Op: impl.TyVar, N: n} }

func funTy(a, b impl.Ty) impl.Ty { return impl.Ty{Op: impl.TyFun, Kids: []impl.Ty{a, b}} }

func dataTy(s string, kids ...impl.Ty) impl.Ty {
	return impl.Ty{Op: impl.TyData, S: s, Kids: kids}
}

func oneCon(name string, args ...impl.Ty) impl.Con { return impl.Con{Name: name, Args: args} }

func oneData(name string, vars int, cons ...impl.Con) impl.Data {
	return impl.Data{Name: name, Vars: vars, Cons: cons}
}

func onlyMain(n impl.Node) impl.Prog { return impl.Prog{Main: n} }

// told writes every field of a node, so that two texts are one only where the trees are.
func told(n impl.Node) string {
	parts := []string{strconv.Itoa(n.Op), strconv.Itoa(n.N), strconv.Quote(n.S), strconv.Quote(n.T)}
	for _, kid := range n.Kids {
		parts = append(parts, told(kid))
	}
	return "[" + strings.Join(parts, " ") + "]"
}

func toldTy(t impl.Ty) string {
	var b strings.Builder
	tellTy(&b, t)
	return b.String()
}

func tellTy(b *strings.Builder, t impl.Ty) {
	b.WriteString("<" + strconv.Itoa(t.Op) + " " + strconv.Itoa(t.N) + " " + strconv.Quote(t.S))
	for _, kid := range t.Kids {
		b.WriteString(" ")
		tellTy(b, kid)
	}
	b.WriteString(">")
}

func toldProg(p impl.Prog) string {
	var b strings.Builder
	for _, d := range p.Datas {
		b.WriteString("data " + strconv.Quote(d.Name) + " " + strconv.Itoa(d.Vars) + ":")
		for _, c := range d.Cons {
			b.WriteString(" (" + strconv.Quote(c.Name))
			for _, a := range c.Args {
				b.WriteString(" " + toldTy(a))
			}
			b.WriteString(")")
		}
		b.WriteString("; ")
	}
	return b.String() + told(p.Main)
}

func deepBy(n impl.Node) int {
	deep := 0
	for _, kid := range n.Kids {
		deep = max(deep, deepBy(kid))
	}
	return deep + 1
}

// steps are numbers in an order that is the same at each run.
type steps uint32

func (s *steps) below(n int) int {
	*s = *s*1664525 + 1013904223
	return int(*s>>16) % n
}

func (s *steps) pick(list ...string) string { return list[s.below(len(list))] }

// randomProg is some program; its trees are at most deep deep.
func (s *steps) randomProg(deep int) impl.Prog {
	var p impl.Prog
	for left := s.below(3); left > 0; left-- {
		d := oneData(s.randomCon(), s.below(4))
		for more := s.below(3); more >= 0; more-- {
			c := oneCon(s.randomCon())
			for args := s.below(4); args > 0; args-- {
				c.Args = append(c.Args, s.randomTy(d.Vars, 1+s.below(deep)))
			}
			d.Cons = append(d.Cons, c)
		}
		p.Datas = append(p.Datas, d)
	}
	p.Main = s.randomNode(deep)
	return p
}

func (s *steps) randomName() string {
	return s.pick("x", "y", "f", "xs", "lets", "inner", "abcdefgh", "aB", "int", "iff")
}

func (s *steps) randomCon() string {
	return s.pick("C", "Nil", "Cons", "List", "Abcdefgh", "INT", "Inte", "Data", "Let")
}

func (s *steps) randomNumber() int {
	return []int{0, 1, 7, 10, 42, 999, greatest - 1, greatest}[s.below(8)]
}

func (s *steps) randomTy(vars, deep int) impl.Ty {
	kind := s.below(5)
	switch {
	case kind == 0 && vars > 0:
		return varTy(s.below(vars))
	case kind <= 1:
		return intTy()
	case kind == 2 || deep == 1:
		return dataTy(s.randomCon())
	case kind == 3:
		return funTy(s.randomTy(vars, deep-1), s.randomTy(vars, deep-1))
	}
	t := dataTy(s.randomCon())
	for left := s.below(4); left > 0; left-- {
		t.Kids = append(t.Kids, s.randomTy(vars, deep-1))
	}
	return t
}

func (s *steps) randomLeaf() impl.Node {
	switch s.below(3) {
	case 0:
		return aNum(s.randomNumber())
	case 1:
		return aCon(s.randomCon())
	}
	return aVar(s.randomName())
}

func (s *steps) randomNode(deep int) impl.Node {
	if deep == 1 {
		return s.randomLeaf()
	}
	kid := func() impl.Node { return s.randomNode(deep - 1) }
	switch s.below(14) {
	case 0:
		return s.randomLeaf()
	case 1:
		return aFun(s.randomName(), kid())
	case 2:
		return aLet(s.randomName(), kid(), kid())
	case 3:
		return aRec(s.randomName(), s.randomName(), kid(), kid())
	case 4, 5:
		if deep == 2 {
			return s.randomLeaf()
		}
		n := node(impl.NdCase, kid())
		for more := s.below(3); more >= 0; more-- {
			n.Kids = append(n.Kids, anAlt(s.randomPattern(deep-2), s.randomNode(deep-2)))
		}
		return n
	case 6:
		return node(impl.NdIf, kid(), kid(), kid())
	case 7:
		return node(impl.NdPut, kid())
	case 8:
		n := aCon(s.randomCon())
		for left := s.below(4); left > 0; left-- {
			n.Kids = append(n.Kids, kid())
		}
		return n
	case 9, 10:
		return node(impl.NdApp, kid(), kid())
	}
	return node([]int{impl.NdAdd, impl.NdSub, impl.NdMul, impl.NdLess, impl.NdSame}[s.below(5)], kid(), kid())
}

func (s *steps) randomPattern(deep int) impl.Node {
	kind := s.below(5)
	switch {
	case kind == 0:
		return anyPat()
	case kind == 1:
		return varPat(s.randomName())
	case kind == 2:
		return numPat(s.randomNumber())
	case kind == 3 || deep == 1:
		return conPat(s.randomCon())
	}
	p := conPat(s.randomCon())
	for left := s.below(4); left > 0; left-- {
		p.Kids = append(p.Kids, s.randomPattern(deep-1))
	}
	return p
}

// A scribe writes trees as tokens: brackets stand where they must, and now and then where they need not.
type scribe struct {
	steps
	tokens []string
}

func (w *scribe) put(list ...string) { w.tokens = append(w.tokens, list...) }

// bracketed writes what write writes, in brackets where it must be, and in some where it need not.
func (w *scribe) bracketed(must bool, write func()) {
	for must || w.below(12) == 0 {
		inner := write
		write = func() { w.put("("); inner(); w.put(")") }
		must = false
	}
	write()
}

func (w *scribe) prog(p impl.Prog) {
	for _, d := range p.Datas {
		w.put("data", d.Name)
		for i := range d.Vars {
			w.put(varName(i))
		}
		for i, c := range d.Cons {
			w.put([]string{"=", "|"}[min(i, 1)], c.Name)
			for _, a := range c.Args {
				w.ty(a, 2)
			}
		}
		w.put(";")
	}
	w.node(p.Main, 0)
}

// varName is the name of a data's var: all of them differ.
func varName(i int) string { return "v" + string(rune('a'+i/26)) + string(rune('a'+i%26)) }

// ty writes a type: at 0 an arrow needs no brackets, at 1 a con with types needs none, at 2 both need them.
func (w *scribe) ty(t impl.Ty, at int) {
	isData := t.Op == impl.TyData && len(t.Kids) > 0
	must := t.Op == impl.TyFun && at > 0 || isData && at > 1
	write := func() {
		switch t.Op {
		case impl.TyInt:
			w.put("Int")
		case impl.TyVar:
			w.put(varName(t.N))
		case impl.TyFun:
			w.ty(t.Kids[0], 1)
			w.put("->")
			w.ty(t.Kids[1], 0)
		default:
			w.put(t.S)
			for _, kid := range t.Kids {
				w.ty(kid, 2)
			}
		}
	}
	w.bracketed(must, write)
}

// Where an e stands: anywhere, in a comparison, in a sum, in a product, in an application, as its first atom, as an atom.
const (
	inAll = iota
	inComparison
	inSum
	inProduct
	inApplication
	asFirst
	asAtom
)

// storeyOf is the last place at which a node needs no brackets.
func storeyOf(n impl.Node) int {
	switch n.Op {
	case impl.NdNum, impl.NdVar:
		return asAtom
	case impl.NdLess, impl.NdSame:
		return inComparison
	case impl.NdAdd, impl.NdSub:
		return inSum
	case impl.NdMul:
		return inProduct
	case impl.NdPut:
		return inApplication
	case impl.NdApp:
		return asFirst
	case impl.NdCon:
		if len(n.Kids) == 0 {
			return asAtom
		}
		return inApplication
	}
	return inAll
}

func (w *scribe) node(n impl.Node, at int) {
	conAhead := at == asFirst && n.Op == impl.NdCon
	w.bracketed(storeyOf(n) < at || conAhead, func() { w.bare(n) })
}

func (w *scribe) two(n impl.Node, left int, sign string, right int) {
	w.node(n.Kids[0], left)
	if sign != "" {
		w.put(sign)
	}
	w.node(n.Kids[1], right)
}

func (w *scribe) bare(n impl.Node) {
	switch n.Op {
	case impl.NdNum:
		w.put(strconv.Itoa(n.N))
	case impl.NdVar:
		w.put(n.S)
	case impl.NdFun:
		w.put("fun", n.S, "->")
		w.node(n.Kids[0], inAll)
	case impl.NdLet:
		w.put("let", n.S, "=")
		w.two(n, inAll, "in", inAll)
	case impl.NdRec:
		w.put("rec", n.S, n.T, "=")
		w.two(n, inAll, "in", inAll)
	case impl.NdIf:
		w.put("if")
		w.two(n, inAll, "then", inAll)
		w.put("else")
		w.node(n.Kids[2], inAll)
	case impl.NdCase:
		w.put("case")
		w.node(n.Kids[0], inAll)
		w.put("of")
		for i, a := range n.Kids[1:] {
			w.put([]string{"{", ";"}[min(i, 1)])
			w.pattern(a.Kids[0], false)
			w.put("->")
			w.node(a.Kids[1], inAll)
		}
		w.put("}")
	case impl.NdLess:
		w.two(n, inSum, "<", inSum)
	case impl.NdSame:
		w.two(n, inSum, "==", inSum)
	case impl.NdAdd:
		w.two(n, inSum, "+", inProduct)
	case impl.NdSub:
		w.two(n, inSum, "-", inProduct)
	case impl.NdMul:
		w.two(n, inProduct, "*", inApplication)
	case impl.NdApp:
		w.two(n, asFirst, "", asAtom)
	case impl.NdPut:
		w.put("put")
		w.node(n.Kids[0], asAtom)
	default:
		w.put(n.S)
		for _, kid := range n.Kids {
			w.node(kid, asAtom)
		}
	}
}

func (w *scribe) pattern(p impl.Node, atom bool) {
	w.bracketed(atom && len(p.Kids) > 0, func() {
		switch p.Op {
		case impl.PtAny:
			w.put("_")
		case impl.PtNum:
			w.put(strconv.Itoa(p.N))
		default:
			w.put(p.S)
			for _, kid := range p.Kids {
				w.pattern(kid, true)
			}
		}
	})
}

// text puts something between tokens where it must be, and in some places where it need not.
func (w *scribe) text() string {
	var b strings.Builder
	for i, token := range w.tokens {
		if i > 0 && (runsOn(w.tokens[i-1], token) || w.below(3) > 0) {
			b.WriteString(w.pick(" ", " ", "\n", "  ", " \n "))
		}
		b.WriteString(token)
	}
	return b.String()
}

func runsOn(a, b string) bool {
	last, first := a[len(a)-1], b[0]
	return isLetterByte(last) && isLetterByte(first) || isDigitByte(last) && isDigitByte(first) || last == '=' && first == '='
}

func isLetterByte(b byte) bool { return 'a' <= b|32 && b|32 <= 'z' }

func isDigitByte(b byte) bool { return '0' <= b && b <= '9' }
