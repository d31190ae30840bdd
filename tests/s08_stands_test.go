package tests

import (
	"slices"
	"testing"

	"loop.example/g00323/impl"
)

// A typist has all types that may be guessed: it tells each tree with types that chapter 8's words let be, as far as they are made of these.
type typist struct {
	datas []impl.Data
	pool  []impl.Ty
}

// lists are all lists of that many types.
func (g typist) lists(many int) [][]impl.Ty {
	all := [][]impl.Ty{nil}
	for range many {
		var longer [][]impl.Ty
		for _, list := range all {
			for _, ty := range g.pool {
				longer = append(longer, append(slices.Clone(list), ty))
			}
		}
		all = longer
	}
	return all
}

// some are all lists of some of these, in their order and the other way round.
func some(vars []int) [][]int {
	all := [][]int{nil}
	for _, n := range vars {
		for _, list := range all {
			all = append(all, append(slices.Clone(list), n))
			if len(list) > 0 {
				all = append(all, append([]int{n}, list...))
			}
		}
	}
	return all
}

func withKids(n impl.Node, ty impl.Ty, kids ...impl.Typed) impl.Typed {
	return impl.Typed{Op: n.Op, N: n.N, S: n.S, T: n.T, Ty: ty, Kids: kids}
}

func (g typist) typings(n impl.Node, about []given) []impl.Typed {
	var list []impl.Typed
	switch n.Op {
	case impl.NdNum:
		list = append(list, withKids(n, intTy()))
	case impl.NdVar:
		list = g.ofName(n, about)
	case impl.NdFun:
		for _, from := range g.pool {
			for _, kid := range g.typings(n.Kids[0], also(about, given{name: n.S, ty: from})) {
				list = append(list, withKids(n, funTy(from, kid.Ty), kid))
			}
		}
	case impl.NdApp:
		for _, f := range g.typings(n.Kids[0], about) {
			for _, argument := range g.typings(n.Kids[1], about) {
				if f.Ty.Op == impl.TyFun && sameTy(f.Ty.Kids[0], argument.Ty) {
					list = append(list, withKids(n, f.Ty.Kids[1], f, argument))
				}
			}
		}
	case impl.NdLet:
		for _, first := range g.typings(n.Kids[0], about) {
			list = append(list, g.rest(n, first, first.Ty, about)...)
		}
	case impl.NdRec:
		for _, both := range g.lists(2) {
			function := funTy(both[0], both[1])
			for _, first := range g.typings(n.Kids[0], also(about, given{name: n.S, ty: function}, given{name: n.T, ty: both[0]})) {
				if sameTy(first.Ty, both[1]) {
					list = append(list, g.rest(n, first, function, about)...)
				}
			}
		}
	case impl.NdCase:
		list = g.ofCase(n, about)
	case impl.NdCon:
		list = g.ofCon(n, about)
	}
	return list
}

func (g typist) ofName(n impl.Node, about []given) []impl.Typed {
	var list []impl.Typed
	for _, bound := range slices.Backward(about) {
		if bound.name == n.S {
			for _, inst := range g.lists(len(bound.vars)) {
				made := withKids(n, standIn(bound.ty, bound.vars, inst))
				made.Inst = inst
				list = append(list, made)
			}
			break
		}
	}
	return list
}

func (g typist) rest(n impl.Node, first impl.Typed, ty impl.Ty, about []given) []impl.Typed {
	var env []impl.Scheme
	for _, bound := range about {
		env = append(env, impl.Scheme{Vars: bound.vars, Ty: bound.ty})
	}
	var list []impl.Typed
	for _, vars := range some(genericBy(env, ty)) {
		for _, second := range g.typings(n.Kids[1], also(about, given{n.S, vars, ty})) {
			made := withKids(n, second.Ty, first, second)
			made.Vars = vars
			if n.Op == impl.NdRec {
				made.Inst = []impl.Ty{ty.Kids[0]}
			}
			list = append(list, made)
		}
	}
	return list
}

// ofCase is of cases with one alternative, whose pattern is a name or anything.
func (g typist) ofCase(n impl.Node, about []given) []impl.Typed {
	var list []impl.Typed
	pattern := n.Kids[1].Kids[0]
	for _, asked := range g.typings(n.Kids[0], about) {
		within := about
		if pattern.Op == impl.PtVar {
			within = also(about, given{name: pattern.S, ty: asked.Ty})
		}
		for _, body := range g.typings(n.Kids[1].Kids[1], within) {
			alt := withKids(n.Kids[1], body.Ty, withKids(pattern, asked.Ty), body)
			list = append(list, withKids(n, body.Ty, asked, alt))
		}
	}
	return list
}

// ofCon is of cons with two kids, or none.
func (g typist) ofCon(n impl.Node, about []given) []impl.Typed {
	at := seatsOf(g.datas)[tagBy(g.datas, n.S)]
	d := g.datas[at.data]
	var list []impl.Typed
	for _, inst := range g.lists(d.Vars) {
		made := withKids(n, dataTy(d.Name, inst...))
		made.Inst = inst
		if len(n.Kids) == 0 {
			list = append(list, made)
			continue
		}
		for _, left := range g.typings(n.Kids[0], about) {
			for _, right := range g.typings(n.Kids[1], about) {
				args := d.Cons[at.con].Args
				if sameTy(left.Ty, standIn(args[0], []int{0, 1}[:d.Vars], inst)) && sameTy(right.Ty, standIn(args[1], []int{0, 1}[:d.Vars], inst)) {
					both := made
					both.Kids = []impl.Typed{left, right}
					list = append(list, both)
				}
			}
		}
	}
	return list
}

// holdTypings is promise 8: each of these is checked, and what is found stands for it.
func holdTypings(t *testing.T, p impl.Prog, list []impl.Typed) {
	t.Helper()
	if len(list) == 0 {
		return
	}
	found, ok := holdFound(t, p)
	if !ok {
		t.Fatalf("of %s no types are found, and there are some: %s", told(p.Main), shown(list[0]))
	}
	for _, typed := range list {
		if !impl.CheckTyped(p.Datas, typed) || !checkedBy(p.Datas, typed) {
			t.Fatalf("%s is not checked", shown(typed))
		}
		if why := standsForTree(found, typed); why != "" {
			t.Fatalf("%s: %s", shown(typed), why)
		}
	}
}

func TestWhatIsFoundStandsForAllTypes(t *testing.T) {
	bySize := make([][]impl.Node, 5)
	g := typist{datasOf("data L a = N | C a (L a);"), []impl.Ty{intTy(), varTy(0), varTy(1), funTy(varTy(0), varTy(0)), dataTy("L", varTy(0))}}
	many, none := 0, 0
	for size := 1; size < len(bySize); size++ {
		bySize[size] = smallNodes(size, bySize)
		for _, n := range bySize[size] {
			p := impl.Prog{Datas: g.datas, Main: n}
			list := g.typings(n, nil)
			holdTypings(t, p, list)
			many += len(list)
			if _, how := impl.Infer(p); how == impl.IfType {
				none++
			}
		}
	}
	if many < 15000 || none < 50 {
		t.Errorf("only %d trees with types, and %d without, were met", many, none)
	}
}

func TestWhatIsFoundStandsForAllTypesOfSomePrograms(t *testing.T) {
	g := typist{datasOf(someData), []impl.Ty{intTy(), varTy(0), varTy(1), funTy(intTy(), intTy()), dataTy("U"), dataTy("L", varTy(0))}}
	for src, least := range map[string]int{
		"let i = fun x -> x in i": 20, "let i = fun x -> x in i i": 2, "let i = fun x -> x in P (i 1) (i U)": 2, "let i = fun x -> x in let j = i in j": 70, "fun x -> let y = x in y": 6, "fun x -> let y = fun z -> x in y": 60, "rec f x = x in f": 20, "rec f x = f x in f 1": 50, "fun x -> rec f y = x in f": 60,
		"let k = fun x -> fun y -> x in k": 200, "let n = N in P n n": 1, "let n = N in let m = n in C m m": 0, "fun x -> case x of { y -> let z = y in P z x }": 6, "let f = fun x -> x 1 in f": 1, "rec f x = N in P (f 1) (f U)": 1, "fun x -> let y = x in P (y 1) (y U)": 0,
		"fun x -> x x": 0, "fun f -> P (f 1) (f U)": 0, "rec f x = let g = fun y -> f in g in 1": 0,
	} {
		p := progOf(src)
		list := g.typings(p.Main, nil)
		if holdTypings(t, p, list); len(list) < least {
			t.Errorf("%s has only %d trees with types", src, len(list))
		}
	}
}

// guesses are what a node's types, Insts and Vars may be guessed as.
func (g typist) guesses(n impl.Node) []impl.Typed {
	insts, vars := [][]impl.Ty{nil}, [][]int{nil}
	switch n.Op {
	case impl.NdVar, impl.NdCon:
		insts = append(g.lists(1), nil)
	case impl.NdRec:
		insts, vars = g.lists(1), [][]int{nil, {0}}
	case impl.NdLet:
		vars = [][]int{nil, {0}, {1}}
	}
	var list []impl.Typed
	for _, ty := range g.pool {
		for _, inst := range insts {
			for _, v := range vars {
				list = append(list, impl.Typed{Op: n.Op, N: n.N, S: n.S, T: n.T, Ty: ty, Inst: inst, Vars: v})
			}
		}
	}
	return list
}

// guessed tries all guesses of all nodes.
func (g typist) guessed(all []*impl.Typed, try func()) {
	var lists [][]impl.Typed
	for _, t := range all {
		lists = append(lists, g.guesses(impl.Erase(*t)))
	}
	guessedFrom(all, lists, try)
}

func guessedFrom(all []*impl.Typed, lists [][]impl.Typed, try func()) {
	if len(all) == 0 {
		try()
		return
	}
	for _, guess := range lists[0] {
		all[0].Ty, all[0].Inst, all[0].Vars = guess.Ty, guess.Inst, guess.Vars
		guessedFrom(all[1:], lists[1:], try)
	}
}

// Whatever types are guessed: those that are checked are those that the typist tells, and what is found stands for them.
func TestWhatIsFoundStandsForAllThatIsChecked(t *testing.T) {
	g := typist{datasOf("data L a = N | C a (L a);"), []impl.Ty{intTy(), varTy(0), funTy(varTy(0), varTy(0)), funTy(varTy(0), intTy()), dataTy("L", varTy(0))}}
	bySize := make([][]impl.Node, 4)
	var nodes []impl.Node
	for size := 1; size < len(bySize); size++ {
		bySize[size] = smallNodes(size, bySize)
		nodes = append(nodes, bySize[size]...)
	}
	for _, src := range []string{"let f = fun x -> x in f", "fun x -> let y = x in y", "case N of { x -> x }", "rec f x = x in f"} {
		p, _ := impl.Parse(src)
		nodes = append(nodes, p.Main)
	}
	checked := 0
	for _, n := range nodes {
		made := typedOf(n)
		var list []impl.Typed
		g.guessed(typedIn(&made), func() {
			if impl.CheckTyped(g.datas, made) {
				list = append(list, copiedTyped(made))
			}
		})
		want := map[string]int{}
		for _, typed := range g.typings(n, nil) {
			if g.has(typed) {
				want[toldTyped(typed)]++
			}
		}
		for _, typed := range list {
			if want[toldTyped(typed)] != 1 {
				t.Fatalf("%s is checked", shown(typed))
			}
		}
		if len(list) != len(want) {
			t.Fatalf("of %s %d trees with types are checked, not %d", told(n), len(list), len(want))
		}
		holdTypings(t, impl.Prog{Datas: g.datas, Main: n}, list)
		checked += len(list)
	}
	if checked < 80 {
		t.Errorf("only %d guesses are checked", checked)
	}
}

// has tells whether all types and Vars of a tree are such as are guessed.
func (g typist) has(t impl.Typed) bool {
	for _, ty := range typesWithin(&t) {
		if !slices.ContainsFunc(g.pool, func(other impl.Ty) bool { return sameTy(*ty, other) }) {
			return false
		}
	}
	for _, part := range typedIn(&t) {
		if !slices.IsSorted(part.Vars) || len(part.Inst) > 1 {
			return false
		}
	}
	return true
}

func typedOf(n impl.Node) impl.Typed {
	made := impl.Typed{Op: n.Op, N: n.N, S: n.S, T: n.T}
	for _, kid := range n.Kids {
		made.Kids = append(made.Kids, typedOf(kid))
	}
	return made
}

// Of programs that are made: what vars stand for is put in their place, and all vars get other numbers.
func TestInstancesOfWhatIsFoundAreChecked(t *testing.T) {
	s := steps(84)
	stood := 0
	for i := range 3000 {
		p := s.madeProg(1 + i%5)
		found, how := impl.Infer(p)
		if how != impl.IfDone {
			t.Fatal(how)
		}
		var general []int
		for _, part := range typedIn(&found) {
			general = append(general, part.Vars...)
		}
		var stand []impl.Bind
		for n := range varsWithin(found) {
			if !slices.Contains(general, n) {
				stand = append(stand, impl.Bind{N: n, Ty: []impl.Ty{intTy(), varTy(5000 + n%3), funTy(varTy(5001), intTy()), dataTy("L", varTy(n))}[s.below(4)]})
			}
		}
		other := copiedTyped(found)
		standEverywhere(&other, stand)
		renumbered(&other, func(n int) int { return []int{n, 3*n + 1, 100000 - n}[i%3] })
		if !impl.CheckTyped(p.Datas, other) {
			t.Fatalf("%s is checked, and not %s", shown(found), shown(other))
		}
		if why := standsForTree(found, other); why != "" {
			t.Fatalf("%s: %s", shown(other), why)
		}
		stood += len(stand)
	}
	if stood < 3000 {
		t.Errorf("only %d vars stand for something", stood)
	}
}

// Turned trees that are checked still are of types for which stands what is found of their own nodes.
func TestWhatIsFoundStandsForTurnedTrees(t *testing.T) {
	s := steps(85)
	other, new := 0, 0
	for i := range 20000 {
		p := s.madeProg(1 + i%4)
		typed, _ := impl.Infer(p)
		kept := toldTyped(typed)
		for left := 1 + s.below(2); left > 0; left-- {
			s.turnTyped(&typed)
		}
		if !impl.CheckTyped(p.Datas, typed) || toldTyped(typed) == kept {
			continue
		}
		tree := impl.Erase(typed)
		found, how := impl.Infer(impl.Prog{Datas: p.Datas, Main: tree})
		if how == impl.IfTidy {
			continue
		}
		if told(tree) != told(p.Main) {
			new++
		}
		if how != impl.IfDone {
			t.Fatalf("%s is checked, and Infer is %d", shown(typed), how)
		}
		if why := standsForTree(found, typed); why != "" {
			t.Fatalf("%s: %s", shown(typed), why)
		}
		other++
	}
	if other < 600 || new < 100 {
		t.Errorf("only %d turned trees are checked, %d of them of other nodes", other, new)
	}
}
