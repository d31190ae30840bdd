package tests

import (
	"slices"
	"strconv"
	"strings"
	"testing"

	"loop.example/g00323/impl"
)

// A second telling of chapter 12. It goes through a program with nothing in its hands: what a name is, and which local something is, is looked for upwards from the spot itself.

const (
	blocksMost = 60
	irMost     = 2000
)

func TestNumbersOfChapter12(t *testing.T) {
	for i, got := range []int{impl.IrNum, impl.IrLocal, impl.IrFree, impl.IrSelf, impl.IrClos, impl.IrApp, impl.IrLet, impl.IrIf, impl.IrAdd, impl.IrSub, impl.IrMul, impl.IrLess, impl.IrSame, impl.IrCon, impl.IrPut, impl.IrField, impl.IrIsCon, impl.IrIsNum, impl.IrFail} {
		if got != i+1 {
			t.Errorf("the op of number %d is %d", i+1, got)
		}
	}
	if impl.MaxBlocks != blocksMost || impl.MaxIr != irMost {
		t.Errorf("MaxBlocks is %d, and MaxIr %d", impl.MaxBlocks, impl.MaxIr)
	}
}

func anIr(op, n int, kids ...impl.Ir) impl.Ir { return impl.Ir{Op: op, N: n, Kids: kids} }

func numIr(n int) impl.Ir { return anIr(impl.IrNum, n) }

func localIr(n int) impl.Ir { return anIr(impl.IrLocal, n) }

func letIr(first, second impl.Ir) impl.Ir { return anIr(impl.IrLet, 0, first, second) }

// toldIr writes every field of a node, so that two texts are one only where the nodes are.
func toldIr(x impl.Ir) string {
	var b strings.Builder
	tellIr(&b, x)
	return b.String()
}

func tellIr(b *strings.Builder, x impl.Ir) {
	b.WriteString("{" + strconv.Itoa(x.Op) + " " + strconv.Itoa(x.N))
	for _, kid := range x.Kids {
		b.WriteString(" ")
		tellIr(b, kid)
	}
	b.WriteString("}")
}

func toldBlocks(list []impl.Block) string {
	var texts []string
	for _, b := range list {
		texts = append(texts, strconv.Itoa(b.Free)+": "+toldIr(b.Body))
	}
	return strings.Join(texts, "; ")
}

// irText is short: l, f and self are where something stands, <N ..> a closure of block N, [ | ] a let, #N a con of tag N, and ? what is asked. It trusts that the node is right.
func irText(x impl.Ir) string {
	var kids []string
	for _, kid := range x.Kids {
		kids = append(kids, irText(kid))
	}
	n := strconv.Itoa(x.N)
	list := "(" + strings.Join(kids, ", ") + ")"
	switch x.Op {
	case impl.IrNum:
		return n
	case impl.IrLocal:
		return "l" + n
	case impl.IrFree:
		return "f" + n
	case impl.IrSelf:
		return "self"
	case impl.IrClos:
		return "<" + strings.Join(append([]string{n}, kids...), " ") + ">"
	case impl.IrApp:
		return "(" + kids[0] + " " + kids[1] + ")"
	case impl.IrLet:
		return "[" + kids[0] + " | " + kids[1] + "]"
	case impl.IrIf:
		return "if" + list
	case impl.IrCon:
		return "#" + n + strings.TrimSuffix(list, "()")
	case impl.IrPut:
		return "put" + list
	case impl.IrField:
		return kids[0] + "." + n
	case impl.IrIsCon:
		return "#" + n + "?" + list
	case impl.IrIsNum:
		return n + "?" + list
	case impl.IrFail:
		return "!"
	}
	return "(" + kids[0] + " " + []string{"+", "-", "*", "<", "=="}[x.Op-impl.IrAdd] + " " + kids[1] + ")"
}

func blocksText(list []impl.Block) string {
	var texts []string
	for _, b := range list {
		texts = append(texts, strconv.Itoa(b.Free)+": "+irText(b.Body))
	}
	return strings.Join(texts, "; ")
}

func irsIn(x *impl.Ir) []*impl.Ir {
	list := []*impl.Ir{x}
	for at := 0; at < len(list); at++ {
		for i := range list[at].Kids {
			list = append(list, &list[at].Kids[i])
		}
	}
	return list
}

// A site is a node of a program, and what is about it: it is kid number which of that.
type site struct {
	impl.Node
	about    *site
	which    int
	at       int
	kidSites []*site
	kept     []binder
}

// sitesOf numbers sites from the left, each ahead of what is within it.
func sitesOf(n impl.Node, about *site, which int, next *int) *site {
	s := &site{Node: n, about: about, which: which, at: *next}
	*next++
	for i, kid := range n.Kids {
		s.kidSites = append(s.kidSites, sitesOf(kid, s, i, next))
	}
	return s
}

func (s *site) each(visit func(*site)) {
	visit(s)
	for _, kid := range s.kidSites {
		kid.each(visit)
	}
}

// A binder is the site that binds a name; of a function it may bind its argument.
type binder struct {
	at       *site
	argument bool
}

// binderOf looks for what binds the name of an NdVar.
func binderOf(s *site) binder {
	for here := s; here.about != nil; here = here.about {
		about := here.about
		switch {
		case about.Op == impl.NdFun && about.S == s.S, about.Op == impl.NdRec && here.which == 0 && about.T == s.S:
			return binder{about, true}
		case about.Op == impl.NdRec && about.S == s.S, about.Op == impl.NdLet && here.which == 1 && about.S == s.S:
			return binder{about, false}
		case about.Op == impl.NdAlt && here.which == 1:
			if p := nameIn(about.kidSites[0], s.S); p != nil {
				return binder{p, false}
			}
		}
	}
	panic("nothing binds " + s.S)
}

func nameIn(p *site, name string) *site {
	var found *site
	p.each(func(s *site) {
		if s.Op == impl.PtVar && s.S == name {
			found = s
		}
	})
	return found
}

// functionOf is the function in whose body a site is; nil where it is in none.
func functionOf(s *site) *site {
	for ; s.about != nil; s = s.about {
		if s.about.Op == impl.NdFun || s.about.Op == impl.NdRec && s.which == 0 {
			return s.about
		}
	}
	return nil
}

// localOf is which local a let, a rec or a case makes: all that are about it in its function come ahead.
func localOf(s *site) int {
	n := 1
	for here, function := s, functionOf(s); here.about != function && here.about != nil; here = here.about {
		switch op := here.about.Op; {
		case (op == impl.NdLet || op == impl.NdRec || op == impl.NdCase) && here.which > 0:
			n++
		}
	}
	return n
}

// keep finds what each function keeps: the binders about it of which names are asked in it.
func keep(function *site) {
	if function.Op != impl.NdFun && function.Op != impl.NdRec {
		return
	}
	function.kidSites[0].each(func(s *site) {
		if s.Op != impl.NdVar {
			return
		}
		if b := binderOf(s); b.at.at < function.at && !slices.Contains(function.kept, b) {
			function.kept = append(function.kept, b)
		}
	})
}

// tooMuch is what a closer ends with where there is more than there may be.
type tooMuch struct{}

type closer struct {
	datas  []impl.Data
	blocks []impl.Block
}

// closeBy stops at the first block or node that is one too many.
func closeBy(p impl.Prog) (blocks []impl.Block, ok bool) {
	if !tidyForSure(p) || checkBy(p.Datas) != impl.DtDone {
		return nil, false
	}
	if _, how := impl.Infer(p); how != impl.IfDone {
		return nil, false
	}
	defer func() {
		switch why := recover().(type) {
		case nil:
		case tooMuch:
			blocks, ok = nil, false
		default:
			panic(why)
		}
	}()
	k := closer{datas: p.Datas}
	next := 0
	main := sitesOf(p.Main, nil, 0, &next)
	main.each(keep)
	main.each(func(s *site) {
		if s.Op == impl.NdCase {
			k.treeOf(s)
		}
	})
	k.add(nil, main)
	return k.blocks, true
}

func tidyForSure(p impl.Prog) bool { return impl.Tidy(p) && toldProg(p) != toldProg(impl.Prog{}) }

func (k *closer) treeOf(s *site) impl.Tree {
	tree, many := treesBy(k.datas, s.Kids[1:])
	if many > treesMost {
		panic(tooMuch{})
	}
	return tree
}

// add makes the block of a function, or of Main.
func (k *closer) add(function, body *site) int {
	number := len(k.blocks)
	if number == blocksMost {
		panic(tooMuch{})
	}
	k.blocks = append(k.blocks, impl.Block{})
	b := impl.Block{Body: k.closed(body, function)}
	if function != nil {
		b.Free = len(function.kept)
	}
	if irSizeBy(b.Body) > irMost {
		panic(tooMuch{})
	}
	k.blocks[number] = b
	return number
}

// stands is where what a binder binds stands in a function.
func stands(b binder, function *site) impl.Ir {
	switch {
	case b.at == function && b.argument:
		return localIr(0)
	case b.at == function:
		return anIr(impl.IrSelf, 0)
	case b.argument || functionOf(b.at) != function:
		return anIr(impl.IrFree, slices.Index(function.kept, b))
	case b.at.Op == impl.PtVar:
		return fieldBy(b.at)
	}
	return localIr(localOf(b.at))
}

// fieldBy is what a pattern asks for, of the local of its case.
func fieldBy(p *site) impl.Ir {
	if p.about.Op == impl.NdAlt {
		return localIr(localOf(p.about.about))
	}
	return anIr(impl.IrField, p.which, fieldBy(p.about))
}

func (k *closer) closed(s, function *site) impl.Ir {
	switch s.Op {
	case impl.NdNum:
		return numIr(s.N)
	case impl.NdVar:
		return stands(binderOf(s), function)
	case impl.NdFun:
		return k.made(s, function)
	case impl.NdRec:
		first := k.made(s, function)
		return letIr(first, k.closed(s.kidSites[1], function))
	case impl.NdCase:
		first := k.closed(s.kidSites[0], function)
		return letIr(first, k.led(k.treeOf(s), s, function))
	}
	x := impl.Ir{Op: map[int]int{impl.NdApp: impl.IrApp, impl.NdLet: impl.IrLet, impl.NdIf: impl.IrIf, impl.NdAdd: impl.IrAdd, impl.NdSub: impl.IrSub, impl.NdMul: impl.IrMul, impl.NdLess: impl.IrLess, impl.NdSame: impl.IrSame, impl.NdCon: impl.IrCon, impl.NdPut: impl.IrPut}[s.Op]}
	if s.Op == impl.NdCon {
		x.N = tagBy(k.datas, s.S)
	}
	for _, kid := range s.kidSites {
		x.Kids = append(x.Kids, k.closed(kid, function))
	}
	return x
}

// made is a function as the one about it makes it.
func (k *closer) made(s, function *site) impl.Ir {
	x := anIr(impl.IrClos, k.add(s, s.kidSites[0]))
	for _, b := range s.kept {
		x.Kids = append(x.Kids, stands(b, function))
	}
	return x
}

func (k *closer) led(t impl.Tree, s, function *site) impl.Ir {
	switch t.Op {
	case impl.TrDone:
		return k.closed(s.kidSites[t.N+1].kidSites[1], function)
	case impl.TrFail:
		return anIr(impl.IrFail, 0)
	}
	at := localIr(localOf(s))
	for _, i := range t.Path {
		at = anIr(impl.IrField, i, at)
	}
	held := k.led(t.Kids[0], s, function)
	failed := k.led(t.Kids[1], s, function)
	if irSizeBy(held)+irSizeBy(failed) > irMost {
		panic(tooMuch{})
	}
	if t.Op == impl.TrNum {
		return anIr(impl.IrIsNum, t.N, at, held, failed)
	}
	return anIr(impl.IrIsCon, tagBy(k.datas, t.S), at, held, failed)
}

func copiedIr(x impl.Ir) impl.Ir {
	made := impl.Ir{Op: x.Op, N: x.N}
	for _, kid := range x.Kids {
		made.Kids = append(made.Kids, copiedIr(kid))
	}
	return made
}

func irSizeBy(x impl.Ir) int { return len(irsIn(&x)) }

// irForms has for each op how many kids it has, -1 where others may be, and what its N may be.
var irForms = map[int]struct {
	kids int
	n    string
}{impl.IrNum: {0, "word"}, impl.IrLocal: {0, "local"}, impl.IrFree: {0, "free"}, impl.IrSelf: {0, "self"}, impl.IrClos: {-1, "block"}, impl.IrApp: {2, "none"}, impl.IrLet: {2, "none"}, impl.IrIf: {3, "none"}, impl.IrAdd: {2, "none"}, impl.IrSub: {2, "none"}, impl.IrMul: {2, "none"}, impl.IrLess: {2, "none"}, impl.IrSame: {2, "none"}, impl.IrCon: {-1, "from 0"}, impl.IrPut: {1, "none"}, impl.IrField: {1, "from 0"}, impl.IrIsCon: {3, "from 0"}, impl.IrIsNum: {3, "from 0"}, impl.IrFail: {0, "none"}}

// blocksOkBy calls itself for kids: it is of what is not too deep.
func blocksOkBy(list []impl.Block) bool {
	right := len(list) >= 1 && len(list) <= blocksMost
	for i, b := range list {
		right = right && (b.Free == 0 || i > 0) && b.Free >= 0 && irSizeBy(b.Body) <= irMost && irOkBy(list, i, b.Body, 1)
	}
	return right
}

func irOkBy(list []impl.Block, block int, x impl.Ir, locals int) bool {
	form := irForms[x.Op]
	right := false
	switch form.n {
	case "word":
		right = gone64(x.N) == x.N
	case "local":
		right = x.N >= 0 && x.N < locals
	case "free":
		right = x.N >= 0 && x.N < list[block].Free
	case "self":
		right = x.N == 0 && block > 0
	case "block":
		right = x.N > 0 && x.N < len(list)
	case "none":
		right = x.N == 0
	case "from 0":
		right = x.N >= 0 && gone64(x.N) == x.N
	}
	if !right || form.kids >= 0 && form.kids != len(x.Kids) || x.Op == impl.IrClos && len(x.Kids) != list[x.N].Free {
		return false
	}
	for i, kid := range x.Kids {
		within := locals
		if x.Op == impl.IrLet {
			within += i
		}
		if !irOkBy(list, block, kid, within) {
			return false
		}
	}
	return true
}

// holdClose holds the answer against the second telling, and promise 12: what is closed is right.
func holdClose(t *testing.T, p impl.Prog) ([]impl.Block, bool) {
	t.Helper()
	got, ok := impl.Close(p)
	want, wantOk := closeBy(p)
	if ok != wantOk || toldBlocks(got) != toldBlocks(want) {
		t.Fatalf("Close(%s) is %v and\n%.2000s, not %v and\n%.2000s", short(toldProg(p)), ok, toldBlocks(got), wantOk, toldBlocks(want))
	}
	if impl.BlocksOk(got) != ok || blocksOkBy(got) != ok {
		t.Fatalf("Close(%s) is %v, and\n%.2000s is right: %v", short(toldProg(p)), ok, toldBlocks(got), impl.BlocksOk(got))
	}
	return got, ok
}
