package tests

import (
	"slices"
	"testing"

	"loop.example/g00323/impl"
)

// What places do is what the program means: each one is done as the document tells what it is.

// A visit is a function that is called: which one it is, its next place, and its values from the argument on.
type visit struct {
	function *ware
	number   int
	next     int
	values   []*ware
}

type mill struct {
	funs   []impl.Fun
	visits []*visit
	out    []int
}

func (v *visit) pop() *ware {
	last := len(v.values) - 1
	if last < 1 {
		panic("a value is lacking")
	}
	value := v.values[last]
	v.values = v.values[:last]
	return value
}

func (v *visit) popAll(many int) []*ware {
	var list []*ware
	for range many {
		list = append(list, v.pop())
	}
	slices.Reverse(list)
	return list
}

func (v *visit) push(value *ware) { v.values = append(v.values, value) }

func (v *visit) popInt() int {
	value := v.pop()
	if value.kind != impl.VlInt {
		panic("what is reckoned with is no int")
	}
	return value.n
}

// runFuns is done by at most so many steps.
func runFuns(datas []impl.Data, funs []impl.Fun, steps int) (r impl.Result) {
	k := mill{funs: funs, visits: []*visit{{values: []*ware{nil}}}}
	defer func() {
		switch why := recover().(type) {
		case nil:
		case nothingFits:
			r = impl.Result{Code: impl.EvStuck, Out: k.out}
		case noStepsLeft:
			r = impl.Result{Code: impl.EvFuel, Out: k.out}
		default:
			panic(why)
		}
	}()
	for range steps {
		if v := k.step(); v != nil {
			many := 0
			return impl.Result{Value: valueOfWare(datas, v, &many), Out: k.out}
		}
	}
	panic(noStepsLeft{})
}

// step tells a value where the first function ends.
func (k *mill) step() *ware {
	v := k.visits[len(k.visits)-1]
	o := k.funs[v.number].List[v.next]
	v.next++
	switch name := codeName(o.Code); name {
	case "call":
		both := v.popAll(2)
		if both[0].kind != impl.VlFun {
			panic("what is called is no function")
		}
		k.visits = append(k.visits, &visit{function: both[0], number: both[0].n, values: both[1:]})
	case "ret":
		value := v.pop()
		if len(v.values) != 1 {
			panic("more than the argument is left")
		}
		k.visits = k.visits[:len(k.visits)-1]
		if len(k.visits) == 0 {
			return value
		}
		k.visits[len(k.visits)-1].push(value)
	case "put":
		n := v.popInt()
		k.out = append(k.out, n)
		v.push(intWare(n))
	case "fail":
		panic(nothingFits{})
	default:
		v.do(name, o)
	}
	return nil
}

// do is of what stays within a function.
func (v *visit) do(name string, o impl.Op) {
	switch name {
	case "num":
		v.push(intWare(o.N))
	case "local":
		v.push(v.values[o.N])
	case "free":
		v.push(v.function.kids[o.N])
	case "self":
		v.push(v.function)
	case "clos":
		v.push(&ware{kind: impl.VlFun, n: o.N, kids: v.popAll(o.M)})
	case "con":
		v.push(&ware{kind: impl.VlCon, n: o.N, kids: v.popAll(o.M)})
	case "field":
		con := v.pop()
		if con.kind != impl.VlCon {
			panic("a field is none of a con's")
		}
		v.push(con.kids[o.N])
	case "slide":
		v.push(v.popAll(2)[1])
	case "jump":
		v.next = o.N
	case "zero":
		if v.popInt() == 0 {
			v.next = o.N
		}
	case "iscon", "isnum":
		kind := map[string]int{"iscon": impl.VlCon, "isnum": impl.VlInt}[name]
		if value := v.pop(); value.kind != kind || value.n != o.N {
			v.next = o.M
		}
	default:
		b := v.popInt()
		v.push(intWare(reckonedBy(o.Code-impl.BcAdd+impl.NdAdd, v.popInt(), b)))
	}
}

// holdMade holds that what is made of a program's blocks does what they do. It tells no functions where there are none.
func holdMade(t *testing.T, p impl.Prog) (impl.Result, []impl.Fun) {
	t.Helper()
	blocks, ok := impl.Close(p)
	if !ok {
		return impl.Result{}, nil
	}
	funs, ok := holdGen(t, blocks)
	if !ok {
		return impl.Result{}, nil
	}
	want, got := runBlocks(p.Datas, blocks, 20000), runFuns(p.Datas, funs, 60000)
	if want.Code == impl.EvFuel || got.Code == impl.EvFuel {
		if !beginsWith(got.Out, want.Out) && !beginsWith(want.Out, got.Out) {
			t.Fatalf("%s\ndoes %.300s, and its places do %.300s", impl.Write(p), toldResult(want), toldResult(got))
		}
		return want, funs
	}
	if toldResult(got) != toldResult(want) {
		t.Fatalf("%s\ndoes %.300s, and its places %.2000s do %.300s", impl.Write(p), toldResult(want), funsText(funs), toldResult(got))
	}
	return want, funs
}

func TestPlacesOfMadePrograms(t *testing.T) {
	s := steps(142)
	codes, met := map[int]int{}, map[int]int{}
	refused := 0
	for i := range 2500 {
		p := s.madeProg(1 + i%7)
		if i%2 == 0 {
			p = s.wholeProg(1 + i%7)
		}
		r, funs := holdMade(t, p)
		if funs == nil {
			refused++
			continue
		}
		codes[r.Code]++
		for _, f := range funs {
			for _, o := range f.List {
				met[o.Code]++
			}
		}
	}
	if codes[impl.EvDone] < 1500 || codes[impl.EvStuck] < 150 || codes[impl.EvFuel] < 10 || refused > 100 {
		t.Errorf("the codes are %v, and %d programs are refused", codes, refused)
	}
	for code := impl.BcNum; code <= impl.BcFail; code++ {
		if met[code] < 100 {
			t.Errorf("only %d places are of code %d", met[code], code)
		}
	}
}

func TestPlacesOfNames(t *testing.T) {
	s := steps(143)
	few, many := namer{&s, []string{"a", "b", "c"}}, namer{&s, []string{"a", "b", "c", "e", "g", "h"}}
	codes := map[int]int{}
	most, refused := 0, 0
	for i := range 2000 {
		p := impl.Prog{Datas: datasOf(closeDatas), Main: few.made(nil, 2+i%6)}
		if i%2 == 0 {
			p.Main = many.made(many.names, 2+i%5)
			for _, name := range many.names {
				p.Main = aLet(name, aNum(s.below(5)), p.Main)
			}
		}
		r, funs := holdMade(t, p)
		if funs == nil {
			refused++
			continue
		}
		codes[r.Code]++
		for _, f := range funs {
			for _, o := range f.List {
				if o.Code == impl.BcLocal {
					most = max(most, o.N)
				}
			}
		}
	}
	if codes[impl.EvDone] < 1300 || codes[impl.EvStuck] > 0 || most < 10 || refused > 400 {
		t.Errorf("the codes are %v, %d programs are refused, and the farthest local is %d", codes, refused, most)
	}
}

func TestPlacesOfTypedPrograms(t *testing.T) {
	for _, c := range typedPrograms() {
		if r, funs := holdMade(t, evalProg(c[1])); funs == nil || meansText(r) != c[2] {
			t.Errorf("%s is made to %s", c[1], funsText(funs))
		}
	}
}

func TestPlacesOfAllSmallTrees(t *testing.T) {
	bySize := make([][]impl.Node, 6)
	datas := datasOf(someData)
	made := 0
	for size := 1; size < len(bySize); size++ {
		bySize[size] = smallNodes(size, bySize)
		for _, n := range bySize[size] {
			if _, funs := holdMade(t, impl.Prog{Datas: datas, Main: n}); funs != nil {
				made++
			}
		}
	}
	if made < 300 {
		t.Errorf("only %d trees are made", made)
	}
}

// What Close tells may be more than functions may have: then there are none.
func TestPlacesOfProgramsThatAreTooMuch(t *testing.T) {
	for _, many := range []int{0, 1, 19, 20, 21, 22, 500} {
		p := wideProg(many, aNum(1), intTy())
		if _, funs := holdMade(t, p); (funs != nil) != (many <= keptMost) {
			t.Errorf("a con of %d kids is made to %.300s", many, toldFuns(funs))
		}
		p.Main = aFun("x", p.Main)
		if _, funs := holdMade(t, p); (funs != nil) != (many <= keptMost) {
			t.Errorf("in a function, a con of %d kids is made to %.300s", many, toldFuns(funs))
		}
	}
	names := []string{"a", "b", "c", "d", "e", "g", "h", "i", "j", "k", "l", "m", "n", "o", "p", "q", "r", "s", "t", "u", "v", "w"}
	for many := 1; many <= len(names); many++ {
		p := wideProg(len(names)/2, aNum(1), intTy())
		wide := p.Main
		var patterns []impl.Node
		for _, name := range names {
			patterns = append(patterns, varPat(name))
		}
		p.Main = aFun("x", namesSum(names[:many]))
		p.Main = caseOf(wide, anAlt(conPat("W", patterns[11:]...), p.Main))
		p.Main = caseOf(wide, anAlt(conPat("W", patterns[:11]...), p.Main))
		if _, ok := impl.Close(p); !ok {
			t.Fatalf("%d names are not closed", many)
		}
		if _, funs := holdMade(t, p); (funs != nil) != (many <= keptMost) {
			t.Errorf("of %d names that are kept it is %.300s", many, toldFuns(funs))
		}
	}
}

// namesSum is of some names, and not deep.
func namesSum(names []string) impl.Node {
	if len(names) == 1 {
		return aVar(names[0])
	}
	half := len(names) / 2
	return node(impl.NdAdd, namesSum(names[:half]), namesSum(names[half:]))
}
