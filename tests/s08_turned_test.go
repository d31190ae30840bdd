package tests

import (
	"regexp"
	"slices"

	"loop.example/g00323/impl"
)

// A second telling of chapter 8: which kids a node may have is told by letters, and the checker of chapter 7's tests, which takes some vars for all, tells the rest.

var kidsBy = map[int]*regexp.Regexp{
	impl.NdNum: regexp.MustCompile(`^$`), impl.NdVar: regexp.MustCompile(`^$`), impl.NdFun: regexp.MustCompile(`^e$`), impl.NdApp: regexp.MustCompile(`^ee$`),
	impl.NdLet: regexp.MustCompile(`^ee$`), impl.NdRec: regexp.MustCompile(`^ee$`), impl.NdCase: regexp.MustCompile(`^ea+$`), impl.NdAlt: regexp.MustCompile(`^pe$`),
	impl.NdIf: regexp.MustCompile(`^eee$`), impl.NdAdd: regexp.MustCompile(`^ee$`), impl.NdSub: regexp.MustCompile(`^ee$`), impl.NdMul: regexp.MustCompile(`^ee$`),
	impl.NdLess: regexp.MustCompile(`^ee$`), impl.NdSame: regexp.MustCompile(`^ee$`), impl.NdCon: regexp.MustCompile(`^e*$`), impl.NdPut: regexp.MustCompile(`^e$`),
	impl.PtAny: regexp.MustCompile(`^$`), impl.PtVar: regexp.MustCompile(`^$`), impl.PtNum: regexp.MustCompile(`^$`), impl.PtCon: regexp.MustCompile(`^p*$`),
}

func sortBy(op int) string {
	switch op {
	case impl.NdAlt:
		return "a"
	case impl.PtAny, impl.PtVar, impl.PtNum, impl.PtCon:
		return "p"
	}
	if kidsBy[op] == nil {
		return "?"
	}
	return "e"
}

func shapedBy(t impl.Typed) bool {
	kids := ""
	for _, kid := range t.Kids {
		kids += sortBy(kid.Op)
	}
	return kidsBy[t.Op] != nil && kidsBy[t.Op].MatchString(kids) && !slices.ContainsFunc(t.Kids, func(kid impl.Typed) bool { return !shapedBy(kid) })
}

func checkedBy(list []impl.Data, t impl.Typed) bool {
	return checkBy(list) == impl.DtDone && sortBy(t.Op) == "e" && shapedBy(t) && checker{datas: list, some: true}.wrong(t, nil) == ""
}

func copiedTyped(t impl.Typed) impl.Typed {
	made := impl.Typed{Op: t.Op, N: t.N, S: t.S, T: t.T, Ty: copiedTy(t.Ty), Vars: slices.Clone(t.Vars)}
	for _, inst := range t.Inst {
		made.Inst = append(made.Inst, copiedTy(inst))
	}
	for _, kid := range t.Kids {
		made.Kids = append(made.Kids, copiedTyped(kid))
	}
	return made
}

// kidAt is the node that is come to by these kids.
func kidAt(t *impl.Typed, path ...int) *impl.Typed {
	for _, i := range path {
		t = &t.Kids[i]
	}
	return t
}

// typesWithin are all types of a tree, which may be turned.
func typesWithin(t *impl.Typed) []*impl.Ty {
	var list []*impl.Ty
	for _, part := range typedIn(t) {
		list = append(list, &part.Ty)
		for i := range part.Inst {
			list = append(list, &part.Inst[i])
		}
	}
	return list
}

// standEverywhere puts types in the place of vars in all types of a tree, and leaves its Vars as they are.
func standEverywhere(t *impl.Typed, s []impl.Bind) {
	for _, ty := range typesWithin(t) {
		*ty = copiedTy(applyBy(s, *ty))
	}
}

// renumbered gives all vars of a tree other numbers, those that are for all, too.
func renumbered(t *impl.Typed, number func(int) int) {
	for _, ty := range typesWithin(t) {
		for _, part := range tysIn(ty) {
			if part.Op == impl.TyVar {
				part.N = number(part.N)
			}
		}
	}
	for _, part := range typedIn(t) {
		for i, n := range part.Vars {
			part.Vars[i] = number(n)
		}
	}
}

// someVar is a var of the tree, or, now and then, another one.
func (s *steps) someVar(t impl.Typed) int {
	var vars []int
	for n := range varsWithin(t) {
		vars = append(vars, n)
	}
	if slices.Sort(vars); len(vars) == 0 || s.below(6) == 0 {
		return []int{0, 1, 2, 3, 77, -1}[s.below(6)]
	}
	return vars[s.below(len(vars))]
}

// turnTyped makes one field of one node another one; which one is told.
func (s *steps) turnTyped(whole *impl.Typed) string {
	all := typedIn(whole)
	t, other := all[s.below(len(all))], copiedTyped(*all[s.below(len(all))])
	n := s.someVar(*whole)
	switch s.below(8) {
	case 0:
		s.turnTyOf(&t.Ty, other.Ty, n)
		return "Ty"
	case 1:
		s.turnInst(t, other, n)
		return "Inst"
	case 2:
		s.turnVars(t, n)
		return "Vars"
	case 3:
		t.S = s.pick(other.S, "x", "y", "f", "q", "N", "C", "P", "U", "F", "Q", "")
		return "S"
	case 4:
		t.T = s.pick(other.S, "x", "y", "f", "q", "")
		return "T"
	case 5:
		s.turnKids(t, other)
		return "Kids"
	case 6:
		t.Op = s.below(24) - 1
		return "Op"
	}
	standEverywhere(whole, []impl.Bind{{N: n, Ty: []impl.Ty{intTy(), varTy(77), other.Ty, varTy(s.someVar(*whole))}[s.below(4)]}})
	return "all types"
}

func (s *steps) turnTyOf(ty *impl.Ty, other impl.Ty, n int) {
	switch s.below(4) {
	case 0:
		*ty = other
	case 1:
		*ty = []impl.Ty{intTy(), varTy(n), funTy(*ty, intTy()), dataTy("L", *ty)}[s.below(4)]
	case 2:
		all := tysIn(ty)
		s.turnType(all[s.below(len(all))])
	default:
		all := tysIn(ty)
		*all[s.below(len(all))] = varTy(n)
	}
}

func (s *steps) turnInst(t *impl.Typed, other impl.Typed, n int) {
	switch kind := s.below(4); {
	case kind == 0:
		t.Inst = append(t.Inst, []impl.Ty{intTy(), varTy(n), other.Ty}[s.below(3)])
	case kind == 1:
		t.Inst = other.Inst
	case len(t.Inst) == 0:
		t.Inst = []impl.Ty{varTy(n)}
	case kind == 2:
		t.Inst = t.Inst[:len(t.Inst)-1]
	default:
		s.turnTyOf(&t.Inst[s.below(len(t.Inst))], other.Ty, n)
	}
}

func (s *steps) turnVars(t *impl.Typed, n int) {
	switch kind := s.below(4); {
	case kind == 0:
		t.Vars = append(t.Vars, n)
	case len(t.Vars) == 0:
		t.Vars = []int{n}
	case kind == 1:
		t.Vars = t.Vars[1:]
	case kind == 2:
		slices.Reverse(t.Vars)
	default:
		t.Vars[s.below(len(t.Vars))] = n
	}
}

func (s *steps) turnKids(t *impl.Typed, other impl.Typed) {
	switch kind := s.below(5); {
	case kind == 0:
		t.Kids = append(t.Kids, other)
	case len(t.Kids) == 0:
		t.Kids = []impl.Typed{{Op: impl.NdNum, Ty: intTy()}}
	case kind == 1:
		t.Kids = t.Kids[:len(t.Kids)-1]
	case kind == 2:
		t.Kids = t.Kids[1:]
	case kind == 3:
		slices.Reverse(t.Kids)
	default:
		t.Kids[s.below(len(t.Kids))] = other
	}
}

// A bindMap is what vars stand for, as far as it is known.
type bindMap map[int]string

// standsForTree is promise 8: by what the vars of what is found stand for, it has the types of another tree of the same nodes. A text says where it has not.
func standsForTree(found, other impl.Typed) string {
	return bindMap{}.wrong(found, other)
}

func (m bindMap) wrong(found, other impl.Typed) string {
	if len(found.Kids) != len(other.Kids) || !m.makes(found.Ty, other.Ty) {
		return shown(found) + " does not stand for " + shown(other)
	}
	if asksInst(found.Op) && found.Op != impl.NdVar { // a name may be for fewer vars than could be: then it has fewer Insts
		if len(found.Inst) != len(other.Inst) {
			return shown(found) + " has other Insts than " + shown(other)
		}
		for i := range found.Inst {
			if !m.makes(found.Inst[i], other.Inst[i]) {
				return "Inst of " + shown(found) + " does not stand for that of " + shown(other)
			}
		}
	}
	for i := range found.Kids {
		if why := m.wrong(found.Kids[i], other.Kids[i]); why != "" {
			return why
		}
	}
	return ""
}

func (m bindMap) makes(ty, other impl.Ty) bool {
	if ty.Op == impl.TyVar {
		text := toldTy(other)
		if m[ty.N] == "" {
			m[ty.N] = text
		}
		return m[ty.N] == text
	}
	if ty.Op != other.Op || ty.S != other.S || len(ty.Kids) != len(other.Kids) {
		return false
	}
	for i := range ty.Kids {
		if !m.makes(ty.Kids[i], other.Kids[i]) {
			return false
		}
	}
	return true
}

// kindsIn has each kind of node that is in one of the trees.
func kindsIn(list ...impl.Typed) map[int]int {
	met := map[int]int{}
	for _, t := range list {
		for _, part := range typedIn(&t) {
			met[part.Op]++
		}
	}
	return met
}
