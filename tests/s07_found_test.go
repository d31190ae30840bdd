package tests

import (
	"maps"
	"slices"
	"strconv"
	"strings"

	"loop.example/g00323/impl"
)

// A second telling of chapter 7, by Unify and Apply as they are told: all that was found is applied at each step.

const varsMost = 2000

// A given is a name that is bound, and its type for all of these vars.
type given struct {
	name string
	vars []int
	ty   impl.Ty
}

// A reason is what a seeker stops with.
type reason int

type seeker struct {
	datas []impl.Data
	found []impl.Bind
	vars  int
}

func inferBy(p impl.Prog) (t impl.Typed, how int) {
	if !impl.Tidy(p) {
		return impl.Typed{}, impl.IfTidy
	}
	if checkBy(p.Datas) != impl.DtDone {
		return impl.Typed{}, impl.IfData
	}
	defer func() {
		if why, ok := recover().(reason); ok {
			t, how = impl.Typed{}, int(why)
		}
	}()
	k := seeker{datas: p.Datas}
	t = k.seek(p.Main, nil)
	k.applyAll(&t)
	return t, impl.IfDone
}

func (k *seeker) fresh() impl.Ty {
	k.vars++
	if k.vars > varsMost {
		panic(reason(impl.IfMany))
	}
	return varTy(k.vars - 1)
}

func (k *seeker) alike(a, b impl.Ty) {
	s, ok := impl.Unify(k.found, a, b)
	if !ok {
		panic(reason(impl.IfType))
	}
	k.found = s
}

// applyAll stops where a type would be too large, the node's or one of its kids'.
func (k *seeker) applyAll(t *impl.Typed) {
	k.applyOne(t)
	for i := range t.Kids {
		k.applyAll(&t.Kids[i])
	}
}

func (k *seeker) applyOne(t *impl.Typed) {
	t.Ty = applyBy(k.found, t.Ty)
	good := tyOkBy(t.Ty)
	for i := range t.Inst {
		t.Inst[i] = applyBy(k.found, t.Inst[i])
		good = good && tyOkBy(t.Inst[i])
	}
	if !good {
		panic(reason(impl.IfMany))
	}
}

// freeAbout are the vars that are free in what is bound.
func (k *seeker) freeAbout(about []given) []int {
	var free []int
	for _, g := range about {
		for _, n := range freeVarsBy(applyBy(k.found, g.ty)) {
			if !slices.Contains(g.vars, n) {
				free = append(free, n)
			}
		}
	}
	return free
}

func (k *seeker) general(about []given, name string, ty impl.Ty) given {
	ty = applyBy(k.found, ty)
	free := k.freeAbout(about)
	vars := slices.DeleteFunc(freeVarsBy(ty), func(n int) bool { return slices.Contains(free, n) })
	return given{name, vars, ty}
}

func also(about []given, more ...given) []given { return slices.Concat(about, more) }

func (k *seeker) seek(n impl.Node, about []given) impl.Typed {
	t := impl.Typed{Op: n.Op, N: n.N, S: n.S, T: n.T}
	switch n.Op {
	case impl.NdNum:
		t.Ty = intTy()
	case impl.NdVar:
		k.seekName(&t, about)
	case impl.NdFun:
		v := k.fresh()
		t.Kids = []impl.Typed{k.seek(n.Kids[0], also(about, given{name: n.S, ty: v}))}
		t.Ty = funTy(v, t.Kids[0].Ty)
	case impl.NdApp:
		t.Kids = []impl.Typed{k.seek(n.Kids[0], about), k.seek(n.Kids[1], about)}
		t.Ty = k.fresh()
		k.alike(t.Kids[0].Ty, funTy(t.Kids[1].Ty, t.Ty))
	case impl.NdLet:
		first := k.seek(n.Kids[0], about)
		g := k.general(about, n.S, first.Ty)
		second := k.seek(n.Kids[1], also(about, g))
		t.Ty, t.Vars, t.Kids = second.Ty, g.vars, []impl.Typed{first, second}
	case impl.NdRec:
		a := k.fresh()
		r := k.fresh()
		first := k.seek(n.Kids[0], also(about, given{name: n.S, ty: funTy(a, r)}, given{name: n.T, ty: a}))
		k.alike(first.Ty, r)
		g := k.general(about, n.S, funTy(a, r))
		second := k.seek(n.Kids[1], also(about, g))
		t.Ty, t.Vars, t.Inst, t.Kids = second.Ty, g.vars, []impl.Ty{a}, []impl.Typed{first, second}
	case impl.NdIf:
		first := k.seek(n.Kids[0], about)
		k.alike(first.Ty, intTy())
		second := k.seek(n.Kids[1], about)
		third := k.seek(n.Kids[2], about)
		k.alike(second.Ty, third.Ty)
		t.Ty, t.Kids = third.Ty, []impl.Typed{first, second, third}
	case impl.NdCase:
		k.seekCase(&t, n, about)
	case impl.NdCon:
		k.seekCon(&t, n, func(kid impl.Node) impl.Typed { return k.seek(kid, about) })
	default:
		for _, kid := range n.Kids {
			t.Kids = append(t.Kids, k.seek(kid, about))
			k.alike(t.Kids[len(t.Kids)-1].Ty, intTy())
		}
		t.Ty = intTy()
	}
	k.applyOne(&t)
	return t
}

func (k *seeker) seekName(t *impl.Typed, about []given) {
	for _, g := range slices.Backward(about) {
		if g.name == t.S {
			var s []impl.Bind
			for _, n := range g.vars {
				t.Inst = append(t.Inst, k.fresh())
				s = append(s, impl.Bind{N: n, Ty: t.Inst[len(t.Inst)-1]})
			}
			t.Ty = applyBy(s, g.ty)
			return
		}
	}
	panic(reason(impl.IfName))
}

func (k *seeker) seekCase(t *impl.Typed, n impl.Node, about []given) {
	t.Kids = []impl.Typed{k.seek(n.Kids[0], about)}
	t.Ty = k.fresh()
	for _, alt := range n.Kids[1:] {
		var named []given
		pattern := k.seekPattern(alt.Kids[0], &named)
		k.alike(pattern.Ty, t.Kids[0].Ty)
		body := k.seek(alt.Kids[1], also(about, named...))
		k.alike(body.Ty, t.Ty)
		made := impl.Typed{Op: impl.NdAlt, Ty: t.Ty, Kids: []impl.Typed{pattern, body}}
		k.applyOne(&made)
		t.Kids = append(t.Kids, made)
	}
}

func (k *seeker) seekPattern(n impl.Node, named *[]given) impl.Typed {
	t := impl.Typed{Op: n.Op, N: n.N, S: n.S, Ty: intTy()}
	switch n.Op {
	case impl.PtAny:
		t.Ty = k.fresh()
	case impl.PtVar:
		if slices.ContainsFunc(*named, func(g given) bool { return g.name == n.S }) {
			panic(reason(impl.IfName))
		}
		t.Ty = k.fresh()
		*named = append(*named, given{name: n.S, ty: t.Ty})
	case impl.PtCon:
		k.seekCon(&t, n, func(kid impl.Node) impl.Typed { return k.seekPattern(kid, named) })
	}
	k.applyOne(&t)
	return t
}

func (k *seeker) seekCon(t *impl.Typed, n impl.Node, seek func(impl.Node) impl.Typed) {
	tag := tagBy(k.datas, n.S)
	if tag < 0 {
		panic(reason(impl.IfName))
	}
	at := seatsOf(k.datas)[tag]
	args := k.datas[at.data].Cons[at.con].Args
	if len(args) != len(n.Kids) {
		panic(reason(impl.IfName))
	}
	var s []impl.Bind
	for i := range k.datas[at.data].Vars {
		s = append(s, impl.Bind{N: i, Ty: k.fresh()})
		t.Inst = append(t.Inst, s[i].Ty)
	}
	for i, kid := range n.Kids {
		t.Kids = append(t.Kids, seek(kid))
		k.alike(t.Kids[i].Ty, applyBy(s, args[i]))
	}
	t.Ty = dataTy(k.datas[at.data].Name, t.Inst...)
}

// toldTyped writes every field of a node with its types.
func toldTyped(t impl.Typed) string {
	parts := []string{strconv.Itoa(t.Op), strconv.Itoa(t.N), strconv.Quote(t.S), strconv.Quote(t.T), toldTy(t.Ty), "{"}
	for _, inst := range t.Inst {
		parts = append(parts, toldTy(inst))
	}
	parts = append(parts, "}")
	for _, n := range t.Vars {
		parts = append(parts, strconv.Itoa(n))
	}
	for _, kid := range t.Kids {
		parts = append(parts, toldTyped(kid))
	}
	return "[" + strings.Join(parts, " ") + "]"
}

// numbered writes a type with the numbers of its vars.
func numbered(t impl.Ty) string {
	if t.Op == impl.TyFun && len(t.Kids) != 2 {
		return toldTy(t)
	}
	switch t.Op {
	case impl.TyInt:
		return "Int"
	case impl.TyVar:
		return strconv.Itoa(t.N)
	case impl.TyFun:
		return "(" + numbered(t.Kids[0]) + " -> " + numbered(t.Kids[1]) + ")"
	}
	var kids []string
	for _, kid := range t.Kids {
		kids = append(kids, numbered(kid))
	}
	return listText(t.S, kids)
}

// heads are the first words of a node that is shown.
func heads(t impl.Typed) string {
	signs := map[int]string{impl.NdApp: "app", impl.NdCase: "case", impl.NdAlt: "alt", impl.NdIf: "if", impl.NdAdd: "+", impl.NdSub: "-", impl.NdMul: "*", impl.NdLess: "<", impl.NdSame: "==", impl.NdPut: "put", impl.PtAny: "_"}
	switch t.Op {
	case impl.NdNum:
		return strconv.Itoa(t.N)
	case impl.PtNum:
		return "?" + strconv.Itoa(t.N)
	case impl.NdVar, impl.NdCon:
		return t.S
	case impl.PtVar, impl.PtCon:
		return "?" + t.S
	case impl.NdFun:
		return "fun " + t.S
	case impl.NdLet:
		return "let " + t.S
	case impl.NdRec:
		return "rec " + t.S + " " + t.T
	}
	return signs[t.Op]
}

// shown writes a node with its type, its Inst in braces, its Vars in brackets, and its kids within.
func shown(t impl.Typed) string {
	text := heads(t) + ": " + numbered(t.Ty)
	if len(t.Inst) > 0 {
		var list []string
		for _, inst := range t.Inst {
			list = append(list, numbered(inst))
		}
		text += " {" + strings.Join(list, ", ") + "}"
	}
	if len(t.Vars) > 0 {
		var list []string
		for _, n := range t.Vars {
			list = append(list, strconv.Itoa(n))
		}
		text += " [" + strings.Join(list, ", ") + "]"
	}
	if len(t.Kids) > 0 {
		var list []string
		for _, kid := range t.Kids {
			list = append(list, shown(kid))
		}
		text += " (" + strings.Join(list, "; ") + ")"
	}
	return text
}

// varsWithin are the vars of all types of a node and of all that is within it.
func varsWithin(t impl.Typed) map[int]int {
	met := map[int]int{}
	for _, ty := range append(slices.Clone(t.Inst), t.Ty) {
		for _, n := range freeVarsBy(ty) {
			met[n]++
		}
	}
	for _, kid := range t.Kids {
		maps.Copy(met, varsWithin(kid))
	}
	return met
}

// typedIn are all nodes within one, itself first.
func typedIn(t *impl.Typed) []*impl.Typed {
	all := []*impl.Typed{t}
	for i := range t.Kids {
		all = append(all, typedIn(&t.Kids[i])...)
	}
	return all
}
