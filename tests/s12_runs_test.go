package tests

import (
	"slices"
	"testing"

	"loop.example/g00323/impl"
)

// What blocks do is what the program means: each node is done as the document tells what it is.

// A ware is a value while blocks are run; of a function what its closure kept.
type ware struct {
	kind, n int
	kids    []*ware
}

// A frame is a function that is called: itself, and its locals, of which the first one is the argument.
type frame struct {
	function *ware
	locals   []*ware
}

type runner struct {
	blocks []impl.Block
	steps  int
	out    []int
}

// nothingFits and noStepsLeft are what a run ends with where there is no value.
type (
	nothingFits struct{}
	noStepsLeft struct{}
)

func intWare(n int) *ware { return &ware{kind: impl.VlInt, n: n} }

// runBlocks is done by at most so many steps.
func runBlocks(datas []impl.Data, blocks []impl.Block, steps int) (r impl.Result) {
	k := runner{blocks: blocks, steps: steps}
	defer func() {
		switch why := recover().(type) {
		case nil:
		case nothingFits:
			r = impl.Result{Code: impl.EvStuck, Out: k.out}
		case noStepsLeft:
			r = impl.Result{Code: impl.EvFuel, Out: k.out}
		default:
			panic(why)
		}
	}()
	v := k.run(blocks[0].Body, frame{locals: []*ware{nil}})
	many := 0
	return impl.Result{Value: valueOfWare(datas, v, &many), Out: k.out}
}

// valueOfWare goes no further than there may be values.
func valueOfWare(datas []impl.Data, v *ware, many *int) impl.Value {
	if *many++; *many > valueMost {
		panic(noStepsLeft{})
	}
	switch v.kind {
	case impl.VlInt:
		return intValue(v.n)
	case impl.VlFun:
		return funValue()
	}
	at := seatsOf(datas)[v.n]
	value := conValue(datas[at.data].Cons[at.con].Name)
	for _, kid := range v.kids {
		value.Kids = append(value.Kids, valueOfWare(datas, kid, many))
	}
	return value
}

func (k *runner) all(list []impl.Ir, f frame) []*ware {
	var values []*ware
	for _, x := range list {
		values = append(values, k.run(x, f))
	}
	return values
}

func (k *runner) number(x impl.Ir, f frame) int {
	v := k.run(x, f)
	if v.kind != impl.VlInt {
		panic("what is reckoned with is no int")
	}
	return v.n
}

func (k *runner) run(x impl.Ir, f frame) *ware {
	if k.steps--; k.steps < 0 {
		panic(noStepsLeft{})
	}
	switch x.Op {
	case impl.IrNum:
		return intWare(x.N)
	case impl.IrLocal:
		return f.locals[x.N]
	case impl.IrFree:
		return f.function.kids[x.N]
	case impl.IrSelf:
		return f.function
	case impl.IrClos:
		return &ware{kind: impl.VlFun, n: x.N, kids: k.all(x.Kids, f)}
	case impl.IrCon:
		return &ware{kind: impl.VlCon, n: x.N, kids: k.all(x.Kids, f)}
	case impl.IrApp:
		both := k.all(x.Kids, f)
		if both[0].kind != impl.VlFun {
			panic("what is called is no function")
		}
		return k.run(k.blocks[both[0].n].Body, frame{both[0], both[1:]})
	case impl.IrLet:
		first := k.run(x.Kids[0], f)
		return k.run(x.Kids[1], frame{f.function, append(slices.Clone(f.locals), first)})
	case impl.IrPut:
		n := k.number(x.Kids[0], f)
		k.out = append(k.out, n)
		return intWare(n)
	case impl.IrField:
		v := k.run(x.Kids[0], f)
		if v.kind != impl.VlCon {
			panic("a field is none of a con's")
		}
		return v.kids[x.N]
	case impl.IrIf, impl.IrIsCon, impl.IrIsNum:
		return k.run(x.Kids[k.way(x, f)], f)
	case impl.IrFail:
		panic(nothingFits{})
	}
	a := k.number(x.Kids[0], f)
	return intWare(reckonedBy(x.Op-impl.IrAdd+impl.NdAdd, a, k.number(x.Kids[1], f)))
}

// way is the kid that comes next.
func (k *runner) way(x impl.Ir, f frame) int {
	v := k.run(x.Kids[0], f)
	held := false
	switch x.Op {
	case impl.IrIf:
		if v.kind != impl.VlInt {
			panic("what is asked is no int")
		}
		held = v.n != 0
	case impl.IrIsCon:
		held = v.kind == impl.VlCon && v.n == x.N
	case impl.IrIsNum:
		held = v.kind == impl.VlInt && v.n == x.N
	}
	if held {
		return 1
	}
	return 2
}

// holdRun holds that what is closed does what the program means: of what ends for want of fuel, one tells a beginning of what the other one tells. It tells no blocks where it is not closed.
func holdRun(t *testing.T, p impl.Prog) (impl.Result, []impl.Block) {
	t.Helper()
	blocks, ok := holdClose(t, p)
	if !ok {
		return impl.Result{}, nil
	}
	want := impl.Eval(p, fuelMost)
	got := runBlocks(p.Datas, blocks, 100000)
	if want.Code == impl.EvFuel || got.Code == impl.EvFuel {
		if want.Code != impl.EvFuel || !beginsWith(got.Out, want.Out) && !beginsWith(want.Out, got.Out) {
			t.Fatalf("%s\nmeans %.300s, and its blocks do %.300s", impl.Write(p), toldResult(want), toldResult(got))
		}
		return want, blocks
	}
	if toldResult(got) != toldResult(want) {
		t.Fatalf("%s\nmeans %.300s, and its blocks %.2000s do %.300s", impl.Write(p), toldResult(want), blocksText(blocks), toldResult(got))
	}
	return want, blocks
}

func countIrs(x impl.Ir, ops map[int]int) {
	for _, part := range irsIn(&x) {
		ops[part.Op]++
	}
}

// Programs that have types, with cases that are whole and that are not.
func TestBlocksOfMadePrograms(t *testing.T) {
	s := steps(121)
	codes, ops := map[int]int{}, map[int]int{}
	refused, functions := 0, 0
	for i := range 3000 {
		p := s.madeProg(1 + i%7)
		if i%2 == 0 {
			p = s.wholeProg(1 + i%7)
		}
		r, blocks := holdRun(t, p)
		if blocks == nil {
			refused++
			continue
		}
		codes[r.Code]++
		functions += len(blocks) - 1
		for _, b := range blocks {
			countIrs(b.Body, ops)
		}
	}
	if codes[impl.EvDone] < 2000 || codes[impl.EvStuck] < 200 || codes[impl.EvFuel] < 20 || functions < 8000 || refused > 100 {
		t.Errorf("the codes are %v, %d programs are refused, and there are %d functions", codes, refused, functions)
	}
	for op := impl.IrNum; op <= impl.IrFail; op++ {
		if ops[op] < 200 {
			t.Errorf("only %d nodes are of kind %d", ops[op], op)
		}
	}
}

// Programs of which one or some nodes are others: most have no types.
func TestBlocksOfSwappedPrograms(t *testing.T) {
	s := steps(122)
	met := map[bool]int{}
	for i := range 4000 {
		p := s.wholeProg(1 + i%6)
		for left := 1 + s.below(3); left > 0; left-- {
			s.swappedNode(&p)
		}
		if i%9 == 0 {
			s.turned(&p)
		}
		_, blocks := holdRun(t, p)
		met[blocks != nil]++
	}
	if met[true] < 1000 || met[false] < 1000 {
		t.Errorf("programs are closed and not %v times", met)
	}
}

func TestBlocksOfRandomPrograms(t *testing.T) {
	s := steps(123)
	met := map[bool]int{}
	for i := range 6000 {
		p := s.randomProg(2 + i%6)
		if i%3 > 0 {
			p.Datas = datasOf("data C = C C | Nil; data List a = Cons a (List a) | List | Data a a a | Let;")
		}
		_, blocks := holdRun(t, p)
		met[blocks != nil]++
	}
	if met[true] < 200 || met[false] < 3000 {
		t.Errorf("programs are closed and not %v times", met)
	}
}

// A namer makes functions within functions over some names: where these are few, they hide each other again and again. All is Int, and functions are called where they are made.
type namer struct {
	*steps
	names []string
}

func (m namer) made(about []string, deep int) impl.Node {
	name, argument := m.pick(m.names...), m.pick(m.names...)
	kid := func(names ...string) impl.Node { return m.made(append(slices.Clone(about), names...), deep-1) }
	kind := m.below(8)
	switch {
	case deep <= 1 || kind == 0:
		if len(about) == 0 || m.below(6) == 0 {
			return aNum(m.below(3))
		}
		return node(impl.NdAdd, aVar(m.pick(about...)), node(impl.NdMul, aVar(m.pick(about...)), aVar(m.pick(about...))))
	case kind <= 2:
		return anApp(aFun(name, kid(name)), kid())
	case kind == 3:
		return aLet(name, kid(), kid(name))
	case kind == 4:
		// It is called by itself once more, in a function within it.
		again := anApp(aFun(name, anApp(aVar("f"), node(impl.NdSub, aVar(name), aVar(name)))), aVar(argument))
		return aRec("f", argument, node(impl.NdIf, aVar(argument), again, kid(argument)), anApp(aVar("f"), kid()))
	case kind == 5:
		a, b := m.names[0], m.names[len(m.names)-1]
		return caseOf(aCon("T", kid(), kid(), kid()), anAlt(conPat("T", varPat(a), numPat(m.below(3)), anyPat()), kid(a)), anAlt(conPat("T", numPat(m.below(3)), varPat(a), varPat(b)), kid(a, b)), anAlt(varPat("d"), kid()))
	case kind == 6:
		return caseOf(kid(), anAlt(numPat(m.below(3)), kid()), anAlt(varPat(name), kid(name)))
	}
	return node(impl.NdAdd, kid(), kid())
}

func TestBlocksOfNames(t *testing.T) {
	s := steps(124)
	few, many := namer{&s, []string{"a", "b", "c"}}, namer{&s, []string{"a", "b", "c", "e", "g", "h"}}
	codes, kept := map[int]int{}, map[int]int{}
	most, refused := 0, 0
	for i := range 2500 {
		p := impl.Prog{Datas: datasOf(closeDatas), Main: few.made(nil, 2+i%6)}
		if i%2 == 0 {
			p.Main = many.made(many.names, 2+i%5)
			for _, name := range many.names {
				p.Main = aLet(name, aNum(s.below(5)), p.Main)
			}
		}
		r, blocks := holdRun(t, p)
		if blocks == nil {
			refused++
			continue
		}
		codes[r.Code]++
		most = max(most, len(blocks))
		for _, b := range blocks {
			kept[b.Free]++
		}
	}
	if codes[impl.EvDone] < 1700 || codes[impl.EvStuck] > 0 || most < 40 || refused > 500 || kept[2] < 500 || kept[3] < 100 || kept[4] < 20 {
		t.Errorf("the codes are %v, %d programs are refused, the most blocks are %d, and so many are kept: %v", codes, refused, most, kept)
	}
}

func TestBlocksOfAllSmallTrees(t *testing.T) {
	bySize := make([][]impl.Node, 6)
	datas := datasOf(someData)
	closed := 0
	for size := 1; size < len(bySize); size++ {
		bySize[size] = smallNodes(size, bySize)
		for _, n := range bySize[size] {
			if _, blocks := holdRun(t, impl.Prog{Datas: datas, Main: n}); blocks != nil {
				closed++
			}
		}
	}
	if closed < 300 {
		t.Errorf("only %d trees are closed", closed)
	}
}

func TestBlocksOfTypedPrograms(t *testing.T) {
	for _, c := range typedPrograms() {
		p := evalProg(c[1])
		if r, blocks := holdRun(t, p); blocks == nil || meansText(r) != c[2] {
			t.Errorf("%s is closed as %s", c[1], blocksText(blocks))
		}
	}
}
