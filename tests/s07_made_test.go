package tests

import (
	"slices"

	"loop.example/g00323/impl"
)

// Programs that have types: each expression is made for a type that is known ahead.

const madeDatas = "data L a = N | C a (L a); data P a b = P a b; data U = U | V Int | W U; data F b a = F (a -> b) (L a) | G;"

// A maker whose cases are whole makes none that misses anything.
type maker struct {
	*steps
	datas []impl.Data
	whole bool
}

// A known is a name that is bound, and its type, whose vars may stand for anything.
type known struct {
	name string
	ty   impl.Ty
}

func (s *steps) madeProg(deep int) impl.Prog {
	m := maker{steps: s, datas: datasOf(madeDatas)}
	return impl.Prog{Datas: m.datas, Main: m.made(m.groundTy(3), nil, deep)}
}

func (s *steps) wholeProg(deep int) impl.Prog {
	m := maker{steps: s, datas: datasOf(madeDatas), whole: true}
	return impl.Prog{Datas: m.datas, Main: m.made(m.groundTy(3), nil, deep)}
}

func (m maker) groundTy(deep int) impl.Ty {
	kind := m.below(7)
	switch {
	case kind < 2 || deep == 1:
		return intTy()
	case kind == 2:
		return dataTy("U")
	case kind == 3:
		return dataTy("P", m.groundTy(deep-1), m.groundTy(deep-1))
	case kind == 4:
		return dataTy("L", m.groundTy(deep-1))
	case kind == 5:
		return dataTy("F", m.groundTy(deep-1), m.groundTy(deep-1))
	}
	return funTy(m.groundTy(deep-1), m.groundTy(deep-1))
}

func (m maker) newName() string { return m.pick("x", "y", "z", "f", "g", "h") }

// visible are the names that are not hidden by one within.
func visible(about []known) []known {
	var list []known
	for i, k := range about {
		if !slices.ContainsFunc(about[i+1:], func(other known) bool { return other.name == k.name }) {
			list = append(list, k)
		}
	}
	return list
}

// byName is a name, applied to some arguments or none, that is of the type.
func (m maker) byName(ty impl.Ty, about []known, deep int) (impl.Node, bool) {
	list := visible(about)
	if len(list) == 0 {
		return impl.Node{}, false
	}
	for from, left := m.below(len(list)), len(list); left > 0; left-- {
		k := list[(from+left)%len(list)]
		var args []impl.Ty
		for result := k.ty; ; result = result.Kids[1] {
			if s, ok := impl.Unify(nil, result, ty); ok && m.below(3) > 0 {
				return m.appliedTo(aVar(k.name), args, s, about, deep), true
			}
			if result.Op != impl.TyFun || deep < 2 {
				break
			}
			args = append(args, result.Kids[0])
		}
	}
	return impl.Node{}, false
}

// appliedTo puts some type in the place of each var for which nothing stands yet.
func (m maker) appliedTo(f impl.Node, args []impl.Ty, s []impl.Bind, about []known, deep int) impl.Node {
	for n := range 4 {
		if !slices.ContainsFunc(s, func(b impl.Bind) bool { return b.N == n }) {
			s = append(s, impl.Bind{N: n, Ty: m.groundTy(2)})
		}
	}
	for _, arg := range args {
		f = anApp(f, m.made(applyBy(s, arg), about, deep-1))
	}
	return f
}

func (m maker) made(ty impl.Ty, about []known, deep int) impl.Node {
	if m.below(2) == 0 || deep <= 1 {
		if n, ok := m.byName(ty, about, deep); ok {
			return n
		}
	}
	if deep <= 1 {
		return m.byForm(ty, about, deep)
	}
	x, f := m.newName(), m.newName()
	other := m.groundTy(2)
	switch m.below(10) {
	case 0:
		return node(impl.NdIf, m.made(intTy(), about, deep-1), m.made(ty, about, deep-1), m.made(ty, about, deep-1))
	case 1:
		return aLet(x, m.made(other, about, deep-1), m.made(ty, append(slices.Clone(about), known{x, other}), deep-1))
	case 2:
		return anApp(m.made(funTy(other, ty), about, deep-1), m.made(other, about, deep-1))
	case 3, 4:
		return m.caseOf(ty, about, deep)
	case 5:
		result := m.groundTy(2)
		function := known{f, funTy(other, result)}
		first := m.made(result, append(slices.Clone(about), function, known{x, other}), deep-1)
		return aRec(f, x, first, m.made(ty, append(slices.Clone(about), function), deep-1))
	case 6, 7:
		return m.withGeneral(ty, about, deep)
	}
	return m.byForm(ty, about, deep)
}

// withGeneral binds a name to something that is for all.
func (m maker) withGeneral(ty impl.Ty, about []known, deep int) impl.Node {
	general := []struct{ text, ty string }{{"fun x -> x", "a -> a"}, {"fun x -> fun y -> x", "a -> b -> a"}, {"fun x -> fun y -> P y x", "a -> b -> P b a"}, {"fun x -> C x N", "a -> L a"}, {"N", "L a"}, {"G", "F b a"}, {"P N G", "P (L a) (F b c)"},
		{"fun p -> case p of { P a b -> P b a }", "P a b -> P b a"}, {"let y = fun x -> x in y (fun x -> y x)", "a -> a"}, {"rec m l = case l of { N -> 0; C a t -> 1 + m t } in m", "L a -> Int"},
		{"fun q -> rec m l = case l of { N -> N; C a t -> C (q a) (m t) } in m", "(a -> b) -> L a -> L b"}, {"fun x -> F (fun y -> x) N", "a -> F a b"}}
	g := general[m.below(len(general))]
	p, _ := impl.Parse(g.text)
	name := m.newName()
	return aLet(name, p.Main, m.made(ty, append(slices.Clone(about), known{name, tyOf(g.ty)}), deep-1))
}

func (m maker) caseOf(ty impl.Ty, about []known, deep int) impl.Node {
	other := m.groundTy(2)
	n := node(impl.NdCase, m.made(other, about, deep-1))
	for left := 1 + m.below(3); left > 0; left-- {
		var named []known
		p := m.patternFor(other, &named, 3)
		n.Kids = append(n.Kids, anAlt(p, m.made(ty, append(slices.Clone(about), named...), deep-1)))
	}
	if m.whole {
		for _, row := range m.parted([]impl.Ty{other}, m.below(3), 2) {
			var named []known
			p := m.withNames(row[0], other, &named)
			n.Kids = append(n.Kids, anAlt(p, m.made(ty, append(slices.Clone(about), named...), deep-1)))
		}
	}
	return n
}

// withNames puts names in the place of some that fit anything.
func (m maker) withNames(p impl.Node, ty impl.Ty, named *[]known) impl.Node {
	if p.Op == impl.PtAny {
		return m.patternFor(ty, named, 1)
	}
	if p.Op != impl.PtCon {
		return p
	}
	data, con := impl.ConOf(m.datas, p.S)
	q := conPat(p.S)
	for i, arg := range argsOf(m.datas[data].Cons[con], ty) {
		q.Kids = append(q.Kids, m.withNames(p.Kids[i], arg, named))
	}
	return q
}

func (m maker) patternFor(ty impl.Ty, named *[]known, deep int) impl.Node {
	if m.below(3) == 0 || deep == 1 {
		name := m.newName()
		if slices.ContainsFunc(*named, func(k known) bool { return k.name == name }) {
			return anyPat()
		}
		*named = append(*named, known{name, ty})
		return varPat(name)
	}
	switch ty.Op {
	case impl.TyInt:
		return numPat(m.below(4))
	case impl.TyData:
		cons := m.datas[dataBy(m.datas, ty.S)].Cons
		c := cons[m.below(len(cons))]
		p := conPat(c.Name)
		for _, arg := range c.Args {
			p.Kids = append(p.Kids, m.patternFor(standIn(arg, []int{0, 1}[:len(ty.Kids)], ty.Kids), named, deep-1))
		}
		return p
	}
	return anyPat()
}

// byForm is what a type itself says.
func (m maker) byForm(ty impl.Ty, about []known, deep int) impl.Node {
	switch ty.Op {
	case impl.TyFun:
		x := m.newName()
		return aFun(x, m.made(ty.Kids[1], append(slices.Clone(about), known{x, ty.Kids[0]}), deep-1))
	case impl.TyData:
		cons := m.datas[dataBy(m.datas, ty.S)].Cons
		c := cons[m.below(len(cons))]
		if deep <= 1 { // the con that needs no more than what is at hand
			c = cons[map[string]int{"F": 1}[ty.S]]
		}
		n := aCon(c.Name)
		for _, arg := range c.Args {
			n.Kids = append(n.Kids, m.made(standIn(arg, []int{0, 1}[:len(ty.Kids)], ty.Kids), about, deep-1))
		}
		return n
	}
	if deep <= 1 || m.below(3) == 0 {
		return aNum(m.below(100))
	}
	if m.below(4) == 0 {
		return node(impl.NdPut, m.made(intTy(), about, deep-1))
	}
	return node(impl.NdAdd+m.below(5), m.made(intTy(), about, deep-1), m.made(intTy(), about, deep-1))
}

// swappedNode makes the tree another one, which is tidy where it was: it may have types no more.
func (s *steps) swappedNode(p *impl.Prog) {
	all := spotsOf(p).nodes
	n, other := all[s.below(len(all))], all[s.below(len(all))]
	switch s.below(6) {
	case 0, 1:
		if n.Op == other.Op || n.Op <= impl.NdPut && n.Op != impl.NdAlt && other.Op <= impl.NdPut && other.Op != impl.NdAlt {
			*n = copiedNode(*other)
		}
	case 2:
		if n.S != "" && n.S[0] >= 'a' {
			n.S = s.pick("x", "y", "z", "f", "g", "h", "q")
		}
	case 3:
		if n.T != "" {
			n.T = s.pick("x", "y", "z", "f", "g", "h")
		}
	case 4:
		if n.Op == impl.NdCon || n.Op == impl.PtCon {
			n.S = s.pick("N", "C", "P", "U", "V", "W", "F", "G", "Q")
		}
	default:
		if n.Op == impl.NdNum {
			*n = aVar(s.pick("x", "y", "f"))
		} else if n.Op == impl.PtAny || n.Op == impl.PtNum {
			*n = varPat(s.pick("x", "y", "f"))
		}
	}
}

func copiedNode(n impl.Node) impl.Node {
	made := impl.Node{Op: n.Op, N: n.N, S: n.S, T: n.T}
	for _, kid := range n.Kids {
		made.Kids = append(made.Kids, copiedNode(kid))
	}
	return made
}
