package tests

import (
	"slices"

	"loop.example/g00323/impl"
)

// Each node held against its kids alone, as chapter 8 has it: a text says what is wrong, and none that nothing is.

// A checker asks that Vars are all that may be for all, and that no other node has Vars, nor Insts; where it asks for some alone, as chapter 8 does, they may be fewer, and in any order, and those of other nodes are not asked.
type checker struct {
	datas []impl.Data
	some  bool
}

func sameTy(a, b impl.Ty) bool { return toldTy(a) == toldTy(b) }

func isInt(list ...impl.Typed) bool {
	return !slices.ContainsFunc(list, func(t impl.Typed) bool { return !sameTy(t.Ty, intTy()) })
}

// standIn puts types in the place of these vars, all at once.
func standIn(ty impl.Ty, vars []int, list []impl.Ty) impl.Ty {
	var s []impl.Bind
	for i, n := range vars {
		s = append(s, impl.Bind{N: n, Ty: list[i]})
	}
	return applyBy(s, ty)
}

// wrong is what is wrong with a node, or with one within it, the names being bound as they are.
func (c checker) wrong(t impl.Typed, about []given) string {
	if !tyOkBy(t.Ty) || slices.ContainsFunc(t.Inst, func(ty impl.Ty) bool { return !tyOkBy(ty) }) {
		return shown(t) + ": a type is not right"
	}
	if !c.rightAlone(t, about) {
		return shown(t) + ": it is not right by its kids"
	}
	for i, kid := range t.Kids {
		if why := c.wrong(kid, c.within(t, i, about)); why != "" {
			return why
		}
	}
	return ""
}

// within are the names that are bound in the kid of that number.
func (c checker) within(t impl.Typed, i int, about []given) []given {
	switch {
	case t.Op == impl.NdFun && t.Ty.Op == impl.TyFun:
		return also(about, given{name: t.S, ty: t.Ty.Kids[0]})
	case t.Op == impl.NdLet && i == 1:
		return also(about, given{t.S, t.Vars, t.Kids[0].Ty})
	case t.Op == impl.NdRec && i == 0:
		return also(about, given{name: t.S, ty: funTy(t.Inst[0], t.Kids[0].Ty)}, given{name: t.T, ty: t.Inst[0]})
	case t.Op == impl.NdRec:
		return also(about, given{t.S, t.Vars, funTy(t.Inst[0], t.Kids[0].Ty)})
	case t.Op == impl.NdAlt && i == 1:
		return also(about, namedBy(t.Kids[0])...)
	}
	return about
}

// namedBy are the names that a pattern binds.
func namedBy(t impl.Typed) []given {
	var list []given
	for _, part := range typedIn(&t) {
		if part.Op == impl.PtVar {
			list = append(list, given{name: part.S, ty: part.Ty})
		}
	}
	return list
}

// asksInst and asksVars tell of which nodes the chapters name Insts and Vars.
func asksInst(op int) bool {
	return slices.Contains([]int{impl.NdVar, impl.NdCon, impl.PtCon, impl.NdRec}, op)
}

func asksVars(op int) bool { return op == impl.NdLet || op == impl.NdRec }

func (c checker) rightAlone(t impl.Typed, about []given) bool {
	if !c.some && (!asksInst(t.Op) && len(t.Inst) > 0 || !asksVars(t.Op) && len(t.Vars) > 0) {
		return false
	}
	switch t.Op {
	case impl.NdNum, impl.NdAdd, impl.NdSub, impl.NdMul, impl.NdLess, impl.NdSame, impl.NdPut:
		return isInt(t) && isInt(t.Kids...)
	case impl.PtNum:
		return isInt(t)
	case impl.NdVar:
		return nameIsRight(t, about)
	case impl.NdFun:
		return t.Ty.Op == impl.TyFun && sameTy(t.Ty.Kids[1], t.Kids[0].Ty)
	case impl.NdApp:
		return sameTy(t.Kids[0].Ty, funTy(t.Kids[1].Ty, t.Ty))
	case impl.NdLet:
		return sameTy(t.Ty, t.Kids[1].Ty) && c.areForAll(t, t.Kids[0].Ty, about)
	case impl.NdRec:
		return len(t.Inst) == 1 && sameTy(t.Ty, t.Kids[1].Ty) && c.areForAll(t, funTy(t.Inst[0], t.Kids[0].Ty), about)
	case impl.NdIf:
		return isInt(t.Kids[0]) && sameTy(t.Ty, t.Kids[1].Ty) && sameTy(t.Ty, t.Kids[2].Ty)
	case impl.NdCase:
		return !slices.ContainsFunc(t.Kids[1:], func(alt impl.Typed) bool {
			return !sameTy(alt.Ty, t.Ty) || !sameTy(alt.Kids[1].Ty, t.Ty) || !sameTy(alt.Kids[0].Ty, t.Kids[0].Ty)
		})
	case impl.NdAlt:
		return namesDiffer(namesOf(namedBy(t.Kids[0])))
	case impl.NdCon, impl.PtCon:
		return c.conIsRight(t)
	}
	return t.Op == impl.PtAny || t.Op == impl.PtVar
}

func namesOf(list []given) []string {
	var names []string
	for _, g := range list {
		names = append(names, g.name)
	}
	return names
}

func nameIsRight(t impl.Typed, about []given) bool {
	for _, g := range slices.Backward(about) {
		if g.name == t.S {
			return len(g.vars) == len(t.Inst) && sameTy(t.Ty, standIn(g.ty, g.vars, t.Inst))
		}
	}
	return false
}

// areForAll holds that Vars are all vars of a type that are free in nothing bound about it, ascending, or some of them.
func (c checker) areForAll(t impl.Typed, ty impl.Ty, about []given) bool {
	var free []int
	for _, g := range about {
		for _, n := range freeVarsBy(g.ty) {
			if !slices.Contains(g.vars, n) {
				free = append(free, n)
			}
		}
	}
	all := slices.DeleteFunc(freeVarsBy(ty), func(n int) bool { return slices.Contains(free, n) })
	if c.some {
		return !slices.ContainsFunc(t.Vars, func(n int) bool { return !slices.Contains(all, n) })
	}
	return slices.Equal(t.Vars, all)
}

func (c checker) conIsRight(t impl.Typed) bool {
	tag := tagBy(c.datas, t.S)
	if tag < 0 {
		return false
	}
	at := seatsOf(c.datas)[tag]
	d := c.datas[at.data]
	args := d.Cons[at.con].Args
	if len(args) != len(t.Kids) || d.Vars != len(t.Inst) || !sameTy(t.Ty, dataTy(d.Name, t.Inst...)) {
		return false
	}
	var vars []int
	for n := range d.Vars {
		vars = append(vars, n)
	}
	for i, kid := range t.Kids {
		if !sameTy(kid.Ty, standIn(args[i], vars, t.Inst)) {
			return false
		}
	}
	return true
}
