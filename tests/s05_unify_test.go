package tests

import (
	"math"
	"slices"
	"strconv"
	"strings"
	"testing"

	"loop.example/g00323/impl"
)

func TestMaxTy(t *testing.T) {
	if impl.MaxTy != tyMost {
		t.Errorf("MaxTy is %d, not %d", impl.MaxTy, tyMost)
	}
}

// wrongTys are types that are not right, alone: each form with one thing that it does not name, or without what it names.
func wrongTys() []impl.Ty {
	i := intTy()
	kids := func(many int) []impl.Ty { return slices.Repeat([]impl.Ty{i}, many) }
	list := []impl.Ty{{}, {N: 1}, {S: "L"}, {Kids: kids(2)}, {Op: -1}, {Op: 5}, {Op: 5, Kids: kids(2)}, {Op: 99, S: "L"}, {Op: math.MaxInt}, {Op: math.MinInt}}
	for _, n := range []int{1, -1, 7, math.MaxInt, math.MinInt} {
		list = append(list, impl.Ty{Op: impl.TyInt, N: n}, impl.Ty{Op: impl.TyFun, N: n, Kids: kids(2)}, impl.Ty{Op: impl.TyData, N: n, S: "L"}, impl.Ty{Op: impl.TyData, N: n, S: "L", Kids: kids(1)})
		if n < 0 {
			list = append(list, varTy(n))
		}
	}
	for _, s := range []string{"L", "Int", " ", "\x00"} {
		list = append(list, impl.Ty{Op: impl.TyInt, S: s}, impl.Ty{Op: impl.TyVar, S: s}, impl.Ty{Op: impl.TyVar, N: 3, S: s}, impl.Ty{Op: impl.TyFun, S: s, Kids: kids(2)})
	}
	for many := range 5 {
		if many > 0 {
			list = append(list, impl.Ty{Op: impl.TyInt, Kids: kids(many)}, impl.Ty{Op: impl.TyVar, N: 2, Kids: kids(many)})
		}
		if many != 2 {
			list = append(list, impl.Ty{Op: impl.TyFun, Kids: kids(many)})
		}
		list = append(list, impl.Ty{Op: impl.TyData, Kids: kids(many)})
	}
	return list
}

// about are types with t at each place of a kid, and deeper.
func about(t impl.Ty) []impl.Ty {
	i := intTy()
	return []impl.Ty{t, funTy(t, i), funTy(i, t), dataTy("L", t), dataTy("L", t, i, i), dataTy("L", i, t, i), dataTy("L", i, i, t),
		funTy(i, funTy(dataTy("M", varTy(1), dataTy("L", t)), i)), dataTy("L", dataTy("L", dataTy("L", t)))}
}

func rightTys() []impl.Ty {
	list := []impl.Ty{intTy(), {Op: impl.TyInt, Kids: []impl.Ty{}}, varTy(0), varTy(1), varTy(25), varTy(26), varTy(math.MaxInt), {Op: impl.TyVar, N: 4, Kids: []impl.Ty{}},
		tyOf("a -> Int"), tyOf("(a -> b) -> c -> a"), dataTy("L"), {Op: impl.TyData, S: "L", Kids: []impl.Ty{}}, tyOf("P a Int (L b)")}
	for _, s := range []string{"Int", "x", "a b", " ", "\x00", "\xff", "Abcdefghijklmnop", "let", strings.Repeat("L", 5000)} {
		list = append(list, dataTy(s), dataTy(s, intTy()), dataTy(s, varTy(0), varTy(0), varTy(7)))
	}
	return list
}

func TestTyOkOfEachForm(t *testing.T) {
	for _, right := range rightTys() {
		for _, ty := range about(right) {
			if !impl.TyOk(ty) {
				t.Errorf("%s is not right", short(toldTy(ty)))
			}
		}
	}
	for _, wrong := range wrongTys() {
		for _, ty := range about(wrong) {
			if impl.TyOk(ty) {
				t.Errorf("%s is right", toldTy(ty))
			}
		}
	}
}

func TestTySizeOfEachForm(t *testing.T) {
	for _, ty := range slices.Concat(rightTys(), wrongTys()) {
		for i, more := range about(ty) {
			want := sizeBy(ty) + []int{0, 2, 2, 1, 3, 3, 3, 7, 3}[i]
			if got := impl.TySize(more); got != want {
				t.Errorf("TySize(%s) is %d, not %d", short(toldTy(more)), got, want)
			}
		}
	}
}

func TestTyOkOfSizes(t *testing.T) {
	for size := 1; size <= 2*tyMost+3; size++ {
		types := []impl.Ty{nested(size, intTy()), nested(size, varTy(size)), flat(size, varTy(3)), flat(size, dataTy("M"))}
		if size%2 == 1 {
			types = append(types, aslant(size, true, varTy(0)), aslant(size, false, intTy()))
		} else {
			types = append(types, dataTy("L", aslant(size-1, true, varTy(0))), dataTy("L", aslant(size-1, false, dataTy("M"))))
		}
		if size > 3 {
			types = append(types, funTy(flat(size-2, intTy()), varTy(1)), funTy(intTy(), nested(size-2, varTy(1))), dataTy("N", flat(size-3, varTy(2)), intTy(), dataTy("O")))
		}
		for _, ty := range types {
			if got, many := impl.TyOk(ty), impl.TySize(ty); got != (sizeBy(ty) <= tyMost) || many != sizeBy(ty) {
				t.Errorf("a type of size %d is right: %v; its size is %d", sizeBy(ty), got, many)
			}
		}
	}
}

func TestTypesWithoutEndAreNotRight(t *testing.T) {
	for _, many := range []int{1, 2, 3} {
		for op := impl.TyInt - 1; op <= impl.TyData+1; op++ {
			kids := make([]impl.Ty, many)
			for i := range kids {
				kids[i] = impl.Ty{Op: op, S: []string{"", "L"}[op/impl.TyData%2], Kids: kids}
			}
			for _, ty := range []impl.Ty{kids[0], funTy(varTy(0), kids[0]), dataTy("M", kids...)} {
				if impl.TyOk(ty) || impl.SubOk([]impl.Bind{{N: 1, Ty: ty}}) {
					t.Errorf("op %d: a type without end is right", op)
				}
				wantS := bindsOf("a = b")
				for _, pair := range [][2]impl.Ty{{ty, varTy(4)}, {varTy(4), ty}, {ty, ty}} {
					if s, ok := impl.Unify(wantS, pair[0], pair[1]); ok || toldBinds(s) != toldBinds(wantS) {
						t.Errorf("op %d: a type without end is made alike: %s", op, toldBinds(s))
					}
				}
			}
		}
	}
	twice := varTy(0)
	for range 62 {
		twice = funTy(twice, twice)
	}
	if _, ok := impl.Unify(nil, twice, varTy(1)); ok || impl.TyOk(twice) {
		t.Error("a type with more than all numbers within is right")
	}
}

// greatTys are deeper and wider than any that is right; left, right, within and wide.
func greatTys(many int, leaf impl.Ty) []impl.Ty {
	left, right, deep, wide := leaf, leaf, leaf, dataTy("W")
	for range many {
		left, right, deep = funTy(left, leaf), funTy(leaf, right), dataTy("L", deep)
		wide.Kids = append(wide.Kids, leaf)
	}
	return []impl.Ty{left, right, deep, wide}
}

func TestGreatTypes(t *testing.T) {
	const many = 300000
	for i, ty := range greatTys(many, varTy(5)) {
		size := []int{2*many + 1, 2*many + 1, many + 1, many + 1}[i]
		if got := impl.TySize(ty); got != size {
			t.Errorf("TySize of great type %d is %d, not %d", i, got, size)
		}
		if got := impl.FreeVars(ty); len(got) != 1 || got[0] != 5 {
			t.Errorf("FreeVars of great type %d is %v", i, got)
		}
		made := impl.Apply([]impl.Bind{{N: 5, Ty: funTy(intTy(), varTy(6))}}, ty)
		vars := (size + 1) / 2
		if i > 1 {
			vars = []int{1, many}[i-2]
		}
		if got, want := impl.TySize(made), size+2*vars; got != want {
			t.Errorf("Apply of great type %d has %d within, not %d", i, got, want)
		}
		if got := impl.FreeVars(made); len(got) != 1 || got[0] != 6 {
			t.Errorf("Apply of great type %d has the vars %v", i, got)
		}
		if impl.TyOk(ty) || impl.SubOk([]impl.Bind{{N: 1, Ty: ty}}) {
			t.Errorf("great type %d is right", i)
		}
		if s, ok := impl.Unify([]impl.Bind{{N: 1, Ty: ty}}, intTy(), intTy()); ok || len(s) != 1 || s[0].N != 1 || impl.TySize(s[0].Ty) != size {
			t.Errorf("with great type %d Int and Int are made alike, or another substitution is told", i)
		}
		if s, ok := impl.Unify(nil, varTy(1), ty); ok || len(s) != 0 {
			t.Errorf("great type %d is made alike", i)
		}
		if got := impl.Apply([]impl.Bind{{N: 1, Ty: ty}}, varTy(1)); impl.TySize(got) != size {
			t.Errorf("great type %d does not come in a var's place", i)
		}
	}
}

func TestSubOkOfWhatIsRight(t *testing.T) {
	for _, text := range []string{"", "a = Int", "a = b", "z = a", "a = b; c = b", "c = b; a = b", "a = b -> c; d = L b (c -> Int)", "a = Int; b = Int; c = L", "b = c -> a; z = P a c d", "a = z; b = y; c = x"} {
		if s := bindsOf(text); !impl.SubOk(s) || !subOkBy(s) {
			t.Errorf("%q is no right substitution", text)
		}
	}
	if !impl.SubOk(nil) || !impl.SubOk([]impl.Bind{}) {
		t.Error("no Bind is no right substitution")
	}
	for _, s := range [][]impl.Bind{{{N: math.MaxInt, Ty: varTy(0)}}, {{N: 0, Ty: varTy(math.MaxInt)}}, {{N: 26, Ty: varTy(0)}}, {{N: 0, Ty: nested(tyMost, varTy(1))}}, {{N: 2, Ty: flat(tyMost, varTy(1))}, {N: 3, Ty: flat(tyMost, varTy(4))}}} {
		if !impl.SubOk(s) {
			t.Errorf("%s is no right substitution", short(toldBinds(s)))
		}
	}
	var many []impl.Bind
	for n := range 5000 {
		many = append(many, impl.Bind{N: 2 * (n * 7 % 5000), Ty: funTy(varTy(2*n+1), varTy(1))})
	}
	if !impl.SubOk(many) {
		t.Error("many Binds are no right substitution")
	}
	many[4999].Ty = varTy(5000)
	if impl.SubOk(many) {
		t.Error("many Binds are a right substitution, though the last one's var stands for something")
	}
}

func TestSubOkOfWhatIsNotRight(t *testing.T) {
	for _, text := range []string{"a = a", "a = a -> Int", "a = L (L a)", "a = b; b = Int", "b = Int; a = b", "a = L (Int -> b); c = Int; b = L", "a = b; b = a", "a = Int; a = Int", "a = Int; a = b", "a = b; c = Int; a = b", "a = Int; b = Int; b = Int", "a = Int; b = c; d = P Int (c -> a)", "a = P b c d; d = Int", "a = Int; b = Int; c = c"} {
		if s := bindsOf(text); impl.SubOk(s) || subOkBy(s) {
			t.Errorf("%q is a right substitution", text)
		}
	}
	for _, n := range []int{-1, -2, math.MinInt} {
		for _, s := range [][]impl.Bind{{{N: n, Ty: intTy()}}, {{N: 1, Ty: intTy()}, {N: n, Ty: varTy(2)}}, {{N: n, Ty: varTy(n)}}, {{N: n, Ty: intTy()}, {N: 3, Ty: intTy()}}} {
			if impl.SubOk(s) {
				t.Errorf("%s is a right substitution", toldBinds(s))
			}
		}
	}
	for _, wrong := range wrongTys() {
		for _, ty := range about(wrong) {
			for _, s := range [][]impl.Bind{{{N: 50, Ty: ty}}, {{N: 50, Ty: intTy()}, {N: 51, Ty: ty}}, {{N: 50, Ty: ty}, {N: 51, Ty: intTy()}}} {
				if impl.SubOk(s) {
					t.Errorf("%s is a right substitution", toldBinds(s))
				}
			}
		}
	}
	for _, ty := range []impl.Ty{nested(tyMost+1, varTy(1)), flat(tyMost+1, intTy()), aslant(tyMost+1, true, varTy(2))} {
		if impl.SubOk([]impl.Bind{{N: 0, Ty: ty}}) || impl.SubOk([]impl.Bind{{N: 0, Ty: intTy()}, {N: 7, Ty: ty}}) {
			t.Error("a substitution with a type that is too large is right")
		}
	}
}

// randomBinds are some, of few vars, which stand for types with vars from that one on: now and then they are right.
func (s *steps) randomBinds(most, from, vars int) []impl.Bind {
	var list []impl.Bind
	for left := s.below(most + 1); left > 0; left-- {
		list = append(list, impl.Bind{N: s.below(vars), Ty: s.randomTy(vars, 1+s.below(3))})
		for _, part := range tysIn(&list[len(list)-1].Ty) {
			if part.Op == impl.TyVar {
				part.N += from
			}
		}
	}
	return list
}

// tysIn are the places of all types within one.
func tysIn(t *impl.Ty) []*impl.Ty {
	all := spots{}
	all.addType(t)
	return all.types
}

func TestSubOkOfRandomBinds(t *testing.T) {
	s := steps(31)
	right := 0
	for i := range 20000 {
		list := s.randomBinds(3, i%4, 6)
		if len(list) > 0 && s.below(4) == 0 {
			all := tysIn(&list[s.below(len(list))].Ty)
			s.turnType(all[s.below(len(all))])
		}
		want := subOkBy(list)
		if got := impl.SubOk(list); got != want {
			t.Fatalf("SubOk(%s) is %v", toldBinds(list), got)
		}
		if want && len(list) > 1 {
			right++
		}
	}
	if right < 1000 {
		t.Errorf("only %d substitutions of several Binds are right", right)
	}
}

func TestTyOkOfRandomTypes(t *testing.T) {
	s := steps(32)
	right := 0
	for range 20000 {
		ty := s.randomTy(6, 1+s.below(7))
		if s.below(3) == 0 {
			all := tysIn(&ty)
			s.turnType(all[s.below(len(all))])
		}
		want := tyOkBy(ty)
		if got := impl.TyOk(ty); got != want || impl.TySize(ty) != sizeBy(ty) {
			t.Fatalf("TyOk(%s) is %v, its size %d", toldTy(ty), got, impl.TySize(ty))
		}
		if want {
			right++
		}
	}
	if right < 10000 || right > 19000 {
		t.Errorf("%d types are right", right)
	}
}

func wantApply(t *testing.T, s []impl.Bind, ty, want impl.Ty) {
	t.Helper()
	if got := impl.Apply(s, ty); toldTy(got) != toldTy(want) {
		t.Errorf("Apply(%s, %s) is %s, not %s", toldBinds(s), short(toldTy(ty)), short(toldTy(got)), short(toldTy(want)))
	}
}

func TestApply(t *testing.T) {
	for _, c := range [][3]string{
		{"", "a", "a"}, {"", "Int", "Int"}, {"", "P a (b -> L c)", "P a (b -> L c)"},
		{"a = Int", "a", "Int"}, {"a = Int", "b", "b"}, {"a = Int", "Int", "Int"}, {"a = Int", "L", "L"},
		{"a = Int", "a -> b -> a", "Int -> b -> Int"}, {"a = b -> c; b = Int", "a -> b", "(b -> c) -> Int"}, {"b = Int; a = b -> c", "b -> a", "Int -> b -> c"},
		{"a = Int; a = b", "L a", "L Int"}, {"a = b; a = Int; b = c; b = Int", "P a b", "P b c"}, {"a = a", "a", "a"}, {"a = L a", "a", "L a"}, {"a = L a", "P a (L a)", "P (L a) (L (L a))"},
		{"a = b; b = a", "a -> b", "b -> a"}, {"b = Int; c = L; a = d", "P a b c d", "P d Int L d"}, {"z = P y x", "L (z -> L z)", "L (P y x -> L (P y x))"},
	} {
		wantApply(t, bindsOf(c[0]), tyOf(c[1]), tyOf(c[2]))
	}
}

// What is no var stays as it is, right or not; a var below 0 stands for what a Bind says.
func TestApplyOfWhatIsNotRight(t *testing.T) {
	all := []impl.Bind{{N: 0, Ty: intTy()}, {N: 1, Ty: intTy()}, {N: 7, Ty: intTy()}, {N: -1, Ty: dataTy("Low")}, {N: math.MinInt, Ty: dataTy("Least")}}
	for _, wrong := range wrongTys() {
		for _, ty := range about(wrong) {
			wantApply(t, nil, ty, ty)
			wantApply(t, all, ty, applyBy(all, ty))
		}
	}
	wantApply(t, all, funTy(varTy(-1), varTy(-2)), funTy(dataTy("Low"), varTy(-2)))
	wantApply(t, all, varTy(math.MinInt), dataTy("Least"))
	wantApply(t, []impl.Bind{{N: 3, Ty: impl.Ty{Op: 9, N: 8, S: "x", Kids: []impl.Ty{varTy(3)}}}}, dataTy("", varTy(3)), dataTy("", impl.Ty{Op: 9, N: 8, S: "x", Kids: []impl.Ty{varTy(3)}}))
	wantApply(t, []impl.Bind{{N: 0, Ty: dataTy("L")}}, impl.Ty{Op: impl.TyFun, Kids: []impl.Ty{varTy(0)}}, impl.Ty{Op: impl.TyFun, Kids: []impl.Ty{dataTy("L")}})
	wantApply(t, []impl.Bind{{N: 0, Ty: flat(tyMost, intTy())}}, flat(tyMost+50, varTy(0)), flat(tyMost+50, flat(tyMost, intTy())))
}

func TestApplyOfRandomTypes(t *testing.T) {
	s := steps(33)
	turned := 0
	for range 10000 {
		list, ty := s.randomBinds(5, 0, 6), s.randomTy(6, 1+s.below(5))
		if s.below(3) == 0 {
			all := tysIn(&ty)
			s.turnType(all[s.below(len(all))])
		}
		wantApply(t, list, ty, applyBy(list, ty))
		if toldTy(applyBy(list, ty)) != toldTy(ty) {
			turned++
		}
	}
	if turned < 1000 {
		t.Errorf("only %d types are turned", turned)
	}
}

func TestFreeVars(t *testing.T) {
	for text, want := range map[string][]int{"Int": nil, "L": nil, "Int -> L Int": nil, "a": {0}, "z": {25}, "a -> a": {0}, "b -> a": {0, 1}, "P d (b -> d) (L (L a)) b": {0, 1, 3}, "z -> y -> x -> w -> z": {22, 23, 24, 25}} {
		if got := impl.FreeVars(tyOf(text)); !slices.Equal(got, want) {
			t.Errorf("FreeVars of %s is %v, not %v", text, got, want)
		}
	}
	odd := dataTy("", varTy(math.MaxInt), varTy(-1), impl.Ty{Op: 7, N: 5, Kids: []impl.Ty{varTy(3)}}, varTy(math.MinInt), varTy(-1), impl.Ty{N: 9}, impl.Ty{Op: impl.TyVar, N: 1, S: "x", Kids: []impl.Ty{varTy(2), varTy(1)}})
	if got := impl.FreeVars(odd); !slices.Equal(got, []int{math.MinInt, -1, 1, 2, 3, math.MaxInt}) {
		t.Errorf("FreeVars of a type that is not right is %v", got)
	}
	wide := dataTy("W")
	var want []int
	for n := range 3000 {
		wide.Kids = append(wide.Kids, varTy(3*((n*7)%3000)), varTy(3*n))
		want = append(want, 3*n)
	}
	if got := impl.FreeVars(wide); !slices.Equal(got, want) {
		t.Error("many vars are not told, ascending")
	}
}

func TestFreeVarsOfRandomTypes(t *testing.T) {
	s := steps(34)
	for range 10000 {
		ty := s.randomTy(40, 1+s.below(6))
		if s.below(2) == 0 {
			all := tysIn(&ty)
			s.turnType(all[s.below(len(all))])
		}
		if got := impl.FreeVars(ty); !slices.Equal(got, freeVarsBy(ty)) {
			t.Fatalf("FreeVars(%s) is %v, not %v", toldTy(ty), got, freeVarsBy(ty))
		}
	}
}

// wantAlike holds the substitution that is told, and all that holdUnify holds.
func wantAlike(t *testing.T, s, a, b, want string) {
	t.Helper()
	got, ok := impl.Unify(bindsOf(s), tyOf(a), tyOf(b))
	if !ok || toldBinds(got) != toldBinds(bindsOf(want)) {
		t.Errorf("with %q %s and %s are alike (%v) by %s, not by %q", s, a, b, ok, toldBinds(got), want)
	}
	holdUnify(t, bindsOf(s), tyOf(a), tyOf(b))
}

// wantApart holds that they are not made alike, the other way round either, and that s is told.
func wantApart(t *testing.T, s []impl.Bind, a, b impl.Ty) {
	t.Helper()
	for range 2 {
		if got, ok := impl.Unify(s, a, b); ok || toldBinds(got) != toldBinds(s) {
			t.Errorf("with %s %s and %s are made alike (%v) by %s", short(toldBinds(s)), short(toldTy(a)), short(toldTy(b)), ok, short(toldBinds(got)))
		}
		a, b = b, a
	}
}

// holdUnify is promise 5, for one substitution and two types that are right: what is made alike is alike, by one that stands for s, and as the second telling has it.
func holdUnify(t *testing.T, s []impl.Bind, a, b impl.Ty) bool {
	t.Helper()
	got, ok := impl.Unify(s, a, b)
	want, wantOk := unifyBy(s, a, b)
	if ok != wantOk || ok && toldWordBinds(wordBindsOf(got)) != toldWordBinds(want) {
		t.Fatalf("with %s %s and %s are made alike (%v) by\n%s, not (%v) by\n%s", toldBinds(s), toldTy(a), toldTy(b), ok, toldWordBinds(wordBindsOf(got)), wantOk, toldWordBinds(want))
	}
	if !ok {
		wantApart(t, s, a, b)
		return false
	}
	if !impl.SubOk(got) || !subOkBy(got) {
		t.Fatalf("%s is not right", toldBinds(got))
	}
	if toldTy(impl.Apply(got, a)) != toldTy(impl.Apply(got, b)) {
		t.Fatalf("with %s %s and %s are not made alike by %s", toldBinds(s), toldTy(a), toldTy(b), toldBinds(got))
	}
	for i, bound := range s {
		if got[i].N != bound.N || toldTy(got[i].Ty) != toldTy(impl.Apply(got, bound.Ty)) {
			t.Fatalf("%s does not stand for %s", toldBinds(got), toldBinds(s))
		}
	}
	fits := sizeBy(applyBy(got, a)) <= tyMost // what the steps never made as a whole is made when all is applied at once
	if again, ok := impl.Unify(got, a, b); ok != fits || toldBinds(again) != toldBinds(got) {
		t.Fatalf("made alike again (%v), %s is %s", ok, toldBinds(got), toldBinds(again))
	}
	if other, ok := impl.Unify(s, b, a); !ok || len(other) != len(got) {
		t.Fatalf("with %s %s and %s are made alike, and not the other way round", toldBinds(s), toldTy(a), toldTy(b))
	}
	return true
}

func TestTypesThatAreMadeAlike(t *testing.T) {
	wantAlike(t, "", "Int", "Int", "")
	wantAlike(t, "", "a", "a", "")
	wantAlike(t, "", "a", "Int", "a = Int")
	wantAlike(t, "", "Int", "a", "a = Int")
	wantAlike(t, "", "a", "b", "a = b")
	wantAlike(t, "", "b", "a", "b = a")
	wantAlike(t, "", "L", "L", "")
	wantAlike(t, "", "L a", "L a", "")
	wantAlike(t, "", "L a", "L Int", "a = Int")
	wantAlike(t, "", "a -> b", "c -> d", "a = c; b = d")
	wantAlike(t, "", "a -> b", "b -> a", "a = b")
	wantAlike(t, "", "a -> b", "Int -> a -> c", "a = Int; b = Int -> c")
	wantAlike(t, "", "Int -> a -> c", "a -> b", "a = Int; b = Int -> c")
	wantAlike(t, "", "c -> b -> a", "Int -> Int -> Int", "c = Int; b = Int; a = Int")
	wantAlike(t, "", "P z a m", "P Int L Int", "z = Int; a = L; m = Int")
	wantAlike(t, "", "P a b c", "P b c Int", "a = Int; b = Int; c = Int")
	wantAlike(t, "", "P a b c", "P c a Int", "a = Int; b = Int; c = Int")
	wantAlike(t, "", "P a b (L c)", "P (L b) (L c) (L Int)", "a = L (L Int); b = L Int; c = Int")
	wantAlike(t, "", "(a -> b) -> L a -> L b", "(c -> Int) -> d", "a = c; b = Int; d = L c -> L Int")
	wantAlike(t, "", "P a a", "P b b", "a = b")
	wantAlike(t, "", "P a a", "P (b -> c) (c -> b)", "a = c -> c; b = c")
	wantAlike(t, "", "P a b a", "P b a Int", "a = Int; b = Int")
}

func TestTypesThatAreMadeAlikeBehindOthers(t *testing.T) {
	wantAlike(t, "a = Int", "Int", "Int", "a = Int")
	wantAlike(t, "a = Int", "a", "Int", "a = Int")
	wantAlike(t, "a = Int", "a", "a", "a = Int")
	wantAlike(t, "a = Int", "b", "a", "a = Int; b = Int")
	wantAlike(t, "a = b", "a", "b", "a = b")
	wantAlike(t, "a = b", "a", "Int", "a = Int; b = Int")
	wantAlike(t, "a = b", "Int", "b", "a = Int; b = Int")
	wantAlike(t, "a = b", "a", "c", "a = c; b = c")
	wantAlike(t, "a = b", "c", "a", "a = b; c = b")
	wantAlike(t, "a = b; c = d", "a", "c", "a = d; c = d; b = d")
	wantAlike(t, "z = y; m = L y; a = Int", "y", "P b c", "z = P b c; m = L (P b c); a = Int; y = P b c")
	wantAlike(t, "z = y; m = L y; a = Int", "L z", "m", "z = y; m = L y; a = Int")
	wantAlike(t, "f = a -> b", "f", "Int -> c", "f = Int -> c; a = Int; b = c")
	wantAlike(t, "f = a -> b; g = b -> c", "f -> g", "(a -> Int) -> d", "f = a -> Int; g = Int -> c; b = Int; d = Int -> c")
	wantAlike(t, "y = Int; x = Int; w = Int", "c -> b -> a", "x -> y -> w", "y = Int; x = Int; w = Int; c = Int; b = Int; a = Int")
}

func TestTypesThatAreNotMadeAlike(t *testing.T) {
	for _, c := range [][3]string{{"", "Int", "L"}, {"", "Int", "Int -> Int"}, {"", "L", "M"}, {"", "L", "L Int"}, {"", "L Int", "L Int Int"}, {"", "L a", "M a"}, {"", "a -> b", "L a b"}, {"", "a -> b", "L"},
		{"", "Int -> Int", "Int -> L"}, {"", "Int -> Int", "L -> Int"}, {"", "a -> a", "Int -> L"}, {"", "P a b a", "P b Int L"}, {"", "P a b b", "P Int a L"}, {"", "L (L (L Int))", "L (L (L L))"},
		{"a = Int", "a", "L"}, {"a = Int; b = L", "a", "b"}, {"a = b -> Int", "a", "c -> L"}, {"a = b; c = b", "a -> c", "Int -> L"}, {"q = a", "P b a c", "P Int Int L -> Int"}} {
		wantApart(t, bindsOf(c[0]), tyOf(c[1]), tyOf(c[2]))
		holdUnify(t, bindsOf(c[0]), tyOf(c[1]), tyOf(c[2]))
	}
	wantApart(t, nil, dataTy("Int"), intTy())
	wantApart(t, nil, dataTy("a"), intTy())
	wantApart(t, nil, dataTy("L"), dataTy("L "))
	wantApart(t, nil, dataTy("L", intTy(), intTy()), funTy(intTy(), intTy()))
	wantApart(t, nil, dataTy("->", varTy(0), varTy(1)), funTy(varTy(0), varTy(1)))
}

func TestVarsInTheirOwnTypes(t *testing.T) {
	for _, c := range [][3]string{{"", "a", "L a"}, {"", "a", "a -> Int"}, {"", "a", "Int -> a"}, {"", "a", "P Int (L (Int -> a)) Int"}, {"", "L a", "L (L a)"}, {"", "a -> b", "b -> L a"}, {"", "P a b c", "P (L b) (L c) (L a)"},
		{"", "a -> a", "b -> L b"}, {"", "P a b a", "P b (L c) c"}, {"a = L b", "a", "b"}, {"a = b -> c", "b", "a"}, {"a = L b; c = L d", "a -> c", "d -> b"}, {"a = b", "a", "L b"}, {"a = b", "b", "L a"}, {"a = b; c = b", "a", "L c"}} {
		wantApart(t, bindsOf(c[0]), tyOf(c[1]), tyOf(c[2]))
		holdUnify(t, bindsOf(c[0]), tyOf(c[1]), tyOf(c[2]))
	}
	for size := 2; size <= tyMost; size++ {
		wantApart(t, nil, varTy(7), nested(size, varTy(7)))
	}
	wantAlike(t, "", "a", "a", "")
	wantAlike(t, "b = a", "a", "b", "b = a")
	wantAlike(t, "b = a; c = a", "b -> c", "c -> b", "b = a; c = a")
}

func TestUnifyOfSubstitutionsThatAreNotRight(t *testing.T) {
	for _, text := range []string{"a = a", "a = L a", "a = b; b = Int", "b = Int; a = b", "a = Int; a = Int", "a = Int; a = b", "c = Int; a = b; c = Int"} {
		for _, c := range [][2]string{{"Int", "Int"}, {"x", "x"}, {"x", "Int"}, {"a", "Int"}, {"x -> y", "y -> Int"}} {
			wantApart(t, bindsOf(text), tyOf(c[0]), tyOf(c[1]))
		}
	}
	wantApart(t, []impl.Bind{{N: -1, Ty: intTy()}}, intTy(), intTy())
	wantApart(t, []impl.Bind{{N: math.MinInt, Ty: varTy(1)}}, varTy(2), intTy())
	for _, wrong := range wrongTys() {
		for _, ty := range about(wrong) {
			wantApart(t, []impl.Bind{{N: 50, Ty: ty}}, intTy(), intTy())
			wantApart(t, []impl.Bind{{N: 52, Ty: varTy(53)}, {N: 50, Ty: ty}}, varTy(53), intTy())
		}
	}
}

func TestUnifyOfTypesThatAreNotRight(t *testing.T) {
	s := bindsOf("q = r -> Int; p = r")
	for _, wrong := range wrongTys() {
		for _, ty := range about(wrong) {
			for _, other := range []impl.Ty{ty, intTy(), varTy(40), tyOf("q"), tyOf("r"), funTy(varTy(41), varTy(42)), dataTy("L", varTy(41))} {
				wantApart(t, nil, ty, other)
				wantApart(t, s, ty, other)
			}
		}
	}
}

func TestUnifyOfSizesThatComeIn(t *testing.T) {
	most, more := nested(tyMost, varTy(1)), nested(tyMost+1, varTy(1))
	wide, wider := flat(tyMost, intTy()), flat(tyMost+1, intTy())
	for _, ty := range []impl.Ty{most, wide, dataTy("L", aslant(tyMost-1, true, varTy(1))), dataTy("L", aslant(tyMost-1, false, varTy(1)))} {
		if !holdUnify(t, nil, ty, ty) || !holdUnify(t, nil, varTy(0), ty) || !holdUnify(t, nil, ty, varTy(0)) || !holdUnify(t, []impl.Bind{{N: 0, Ty: ty}}, intTy(), intTy()) || !holdUnify(t, []impl.Bind{{N: 0, Ty: ty}}, varTy(0), ty) {
			t.Errorf("a type of %d is too large", sizeBy(ty))
		}
	}
	for _, ty := range []impl.Ty{more, wider, aslant(tyMost+1, true, varTy(1)), aslant(tyMost+1, false, varTy(1))} {
		wantApart(t, nil, ty, ty)
		wantApart(t, nil, varTy(0), ty)
		wantApart(t, bindsOf("b = c"), varTy(0), ty)
		wantApart(t, []impl.Bind{{N: 0, Ty: ty}}, intTy(), intTy())
		wantApart(t, []impl.Bind{{N: 5, Ty: intTy()}, {N: 0, Ty: ty}}, varTy(7), intTy())
	}
}

// A new Bind's type, and what an old one's type becomes: both at most of MaxTy.
func TestUnifyOfSizesThatWouldComeOut(t *testing.T) {
	for size := tyMost - 3; size <= tyMost+3; size++ {
		for _, c := range []struct {
			s    []impl.Bind
			a, b impl.Ty
		}{
			{[]impl.Bind{{N: 1, Ty: nested(size-100, intTy())}}, varTy(0), funTy(varTy(1), nested(99, intTy()))},
			{[]impl.Bind{{N: 1, Ty: nested(size-100, varTy(2))}}, nested(101, varTy(1)), varTy(0)},
			{[]impl.Bind{{N: 1, Ty: nested(100, varTy(2))}}, varTy(2), nested(size-99, varTy(3))},
			{[]impl.Bind{{N: 1, Ty: nested(100, varTy(2))}}, nested(size-99, intTy()), varTy(2)},
			{[]impl.Bind{{N: 1, Ty: dataTy("P", varTy(2), nested(size-102, varTy(2)))}, {N: 4, Ty: intTy()}}, nested(51, varTy(5)), varTy(2)},
			{[]impl.Bind{{N: 4, Ty: varTy(2)}, {N: 1, Ty: dataTy("P", varTy(2), nested(size-121, intTy()), varTy(2))}, {N: 6, Ty: varTy(2)}}, varTy(2), nested(60, varTy(0))},
			{nil, dataTy("P", varTy(0), varTy(1)), dataTy("P", nested(60, intTy()), dataTy("Q", varTy(0), nested(size-121, varTy(8)), varTy(0)))},
			{nil, dataTy("P", varTy(1), varTy(0)), dataTy("P", dataTy("Q", varTy(0), nested(size-121, varTy(8)), varTy(0)), nested(60, intTy()))},
		} {
			if !impl.SubOk(c.s) || !impl.TyOk(c.a) || !impl.TyOk(c.b) {
				t.Fatalf("what comes in is not right: %s, %s, %s", toldBinds(c.s), toldTy(c.a), toldTy(c.b))
			}
			if got := holdUnify(t, c.s, c.a, c.b); got != (size <= tyMost) {
				t.Errorf("with %s %s and %s, %d in size, are made alike: %v", toldBinds(c.s), toldTy(c.a), toldTy(c.b), size, got)
			}
		}
	}
}

// A sizeCase is of a substitution and types that are right: they are made alike, or would be but for their size.
type sizeCase struct {
	s    []impl.Bind
	a, b impl.Ty
}

func holdSizeCase(t *testing.T, c sizeCase, want bool) {
	t.Helper()
	if !impl.SubOk(c.s) || !impl.TyOk(c.a) || !impl.TyOk(c.b) {
		t.Fatalf("what comes in is not right: %s, %s, %s", short(toldBinds(c.s)), short(toldTy(c.a)), short(toldTy(c.b)))
	}
	for range 2 {
		if got := holdUnify(t, c.s, c.a, c.b); got != want {
			t.Errorf("with %s %s and %s are made alike: %v", short(toldBinds(c.s)), short(toldTy(c.a)), short(toldTy(c.b)), got)
		}
		c.a, c.b = c.b, c.a
	}
}

// What s makes of a or b: at most of MaxTy, whatever would come out.
func TestUnifyOfSizesThatAreApplied(t *testing.T) {
	for size := tyMost - 3; size <= tyMost+3; size++ {
		s := []impl.Bind{{N: 7, Ty: intTy()}, {N: 0, Ty: flat(size-102, varTy(9))}, {N: 1, Ty: nested(50, intTy())}}
		for _, ty := range []impl.Ty{
			funTy(varTy(0), nested(101, intTy())),
			funTy(varTy(7), dataTy("P", nested(99, varTy(2)), varTy(0))),
			dataTy("P", intTy(), varTy(0), nested(51, varTy(1))),
			dataTy("P", varTy(1), varTy(1), varTy(1), nested(size-151, varTy(8))),
		} {
			if got := sizeBy(applyBy(s, ty)); got != size {
				t.Fatalf("a type of %d is made, not of %d", got, size)
			}
			apart := impl.Ty{Op: ty.Op, S: ty.S}
			for n := range ty.Kids {
				apart.Kids = append(apart.Kids, varTy(20+n))
			}
			for _, other := range []impl.Ty{ty, apart, varTy(20), applyBy(s[:2], ty)} {
				if impl.TyOk(other) {
					holdSizeCase(t, sizeCase{s, ty, other}, size <= tyMost)
				}
			}
		}
	}
}

func TestUnifyOfSizesThatAreAppliedFarAbove(t *testing.T) {
	s := []impl.Bind{{N: 0, Ty: nested(tyMost, varTy(9))}, {N: 7, Ty: intTy()}}
	for _, c := range []sizeCase{
		{s, dataTy("L", varTy(0)), dataTy("L", varTy(0))},
		{s, funTy(varTy(0), varTy(0)), funTy(varTy(0), varTy(0))},
		{s, funTy(varTy(0), intTy()), funTy(varTy(0), varTy(3))},
		{s, funTy(varTy(3), varTy(0)), funTy(varTy(0), varTy(4))},
		{s, funTy(varTy(3), varTy(0)), funTy(varTy(4), varTy(5))},
		{s, dataTy("L", varTy(0)), varTy(8)},
		{s, flat(tyMost, varTy(0)), varTy(8)},
		{s, flat(tyMost, varTy(0)), flat(tyMost, varTy(0))},
		{s, flat(tyMost, varTy(0)), flat(tyMost, varTy(8))},
		{[]impl.Bind{{N: 0, Ty: flat(150, intTy())}}, funTy(varTy(0), varTy(0)), funTy(varTy(0), varTy(0))},
	} {
		holdSizeCase(t, c, false)
	}
	for _, ty := range []impl.Ty{varTy(0), varTy(9), nested(tyMost, varTy(7)), flat(tyMost, varTy(9))} {
		holdSizeCase(t, sizeCase{s, ty, ty}, true)
	}
}

// What is found ahead of a kid is applied to it, and makes it at most of MaxTy.
func TestUnifyOfSizesThatAreAppliedToKids(t *testing.T) {
	twice := funTy(varTy(0), varTy(0))
	for size := tyMost - 5; size <= tyMost+5; size++ {
		half := nested(size/2, intTy())
		made := 2*(size/2) + 1
		for _, c := range []sizeCase{
			{nil, funTy(varTy(0), twice), funTy(half, twice)},
			{nil, funTy(varTy(0), twice), funTy(half, funTy(varTy(1), varTy(2)))},
			{nil, funTy(half, funTy(varTy(1), varTy(2))), funTy(varTy(0), twice)},
			{bindsOf("x = Int; y = z"), dataTy("P", varTy(3), varTy(0), twice), dataTy("P", intTy(), half, twice)},
			{nil, dataTy("P", varTy(0), varTy(1), funTy(varTy(0), varTy(1))), dataTy("P", half, varTy(0), funTy(varTy(2), varTy(3)))},
			{nil, dataTy("P", varTy(0), twice, intTy()), dataTy("P", half, twice, varTy(1))},
		} {
			holdSizeCase(t, c, made <= tyMost)
		}
		within := funTy(varTy(0), dataTy("L", twice))
		holdSizeCase(t, sizeCase{nil, within, funTy(half, varTy(1))}, made+1 <= tyMost)
		holdSizeCase(t, sizeCase{nil, within, funTy(half, dataTy("L", varTy(1)))}, made+1 <= tyMost)
		holdSizeCase(t, sizeCase{nil, within, funTy(half, dataTy("L", funTy(varTy(1), varTy(2))))}, made+1 <= tyMost)
	}
	wide := flat(150, intTy())
	holdSizeCase(t, sizeCase{nil, funTy(varTy(0), twice), funTy(wide, twice)}, false)
}

// What no step makes is no reason: kids are met one by one, each with what was found till then.
func TestUnifyOfSizesThatNoStepMakes(t *testing.T) {
	wide, half := flat(150, intTy()), nested(tyMost/2, varTy(9))
	twice := funTy(varTy(0), varTy(0))
	for _, c := range []sizeCase{
		{nil, twice, funTy(wide, varTy(0))},
		{nil, twice, funTy(varTy(0), wide)},
		{nil, funTy(twice, varTy(0)), funTy(twice, wide)},
		{nil, funTy(varTy(1), varTy(0)), funTy(twice, nested((tyMost-1)/2, intTy()))},
		{nil, funTy(varTy(0), varTy(1)), funTy(nested(tyMost-2, intTy()), varTy(0))},
		{nil, dataTy("P", varTy(0), varTy(1), varTy(2)), dataTy("P", half, varTy(0), varTy(0))},
		{nil, dataTy("P", varTy(0), varTy(0), varTy(0), varTy(0)), dataTy("P", half, varTy(1), varTy(2), varTy(3))},
		{nil, dataTy("P", twice, varTy(0)), dataTy("P", funTy(varTy(1), varTy(2)), half)},
		{nil, flat(50, varTy(0)), flat(50, varTy(1))},
		{[]impl.Bind{{N: 5, Ty: nested(tyMost, intTy())}, {N: 6, Ty: wide}}, funTy(varTy(1), varTy(2)), funTy(varTy(2), nested(tyMost-2, intTy()))},
	} {
		holdSizeCase(t, c, true)
	}
	all := flat(50, varTy(0))
	all.Kids[48] = wide
	holdSizeCase(t, sizeCase{nil, flat(50, varTy(0)), all}, true)
}

// Each var is twice the one ahead of it: only the last one would be too large.
func TestUnifyOfTypesThatAreDoubled(t *testing.T) {
	left, right := dataTy("P"), dataTy("P")
	for n := range 7 {
		if !holdUnify(t, nil, left, right) {
			t.Errorf("doubled %d times they are not made alike", n)
		}
		left.Kids, right.Kids = append(left.Kids, varTy(n+1)), append(right.Kids, funTy(varTy(n), varTy(n)))
	}
	if holdUnify(t, nil, left, right) {
		t.Error("doubled seven times they are made alike")
	}
	slices.Reverse(left.Kids)
	slices.Reverse(right.Kids)
	if holdUnify(t, nil, left, right) {
		t.Error("doubled seven times, the last one first, they are made alike")
	}
}

func TestUnifyOfRandomTypes(t *testing.T) {
	s := steps(35)
	alike, apart := 0, 0
	for range 20000 {
		list := s.randomBinds(3, 6*s.below(2), 6)
		if !subOkBy(list) {
			continue
		}
		a, b := s.randomTy(8, 1+s.below(4)), s.randomTy(8, 1+s.below(4))
		if holdUnify(t, list, a, b) {
			alike++
		} else {
			apart++
		}
	}
	if alike < 1000 || apart < 1000 {
		t.Errorf("%d are made alike, and %d are not", alike, apart)
	}
}

// largeTy is a random type of at least that size, of vars from that one on.
func (s *steps) largeTy(size, from int) impl.Ty {
	t := varTy(from + s.below(4))
	for sizeBy(t) < size {
		switch s.below(3) {
		case 0:
			t = funTy(t, varTy(from+s.below(4)))
		case 1:
			t = funTy(s.randomTy(0, 4), t)
		default:
			t = dataTy("P", s.randomTy(0, 3), t, s.randomTy(0, 4))
		}
	}
	return t
}

// Types with vars that stand for large ones: what would come out is too large now and then.
func TestUnifyOfRandomLargeTypes(t *testing.T) {
	s := steps(36)
	alike, apart := 0, 0
	wholes := smallTys(5, 0, 1, 2, 3)
	for range 400 {
		var list []impl.Bind
		for n := range 4 {
			list = append(list, impl.Bind{N: n, Ty: s.largeTy(1+s.below(tyMost-30), 50)})
		}
		l := lifter{steps: &s, from: 100}
		for range 3 {
			whole := dataTy("P", wholes[s.below(len(wholes))], wholes[s.below(len(wholes))])
			a, b := l.lifted(whole), l.lifted(whole)
			if holdUnify(t, list, a, b) {
				alike++
				list, _ = impl.Unify(list, a, b)
			} else {
				apart++
			}
		}
	}
	if alike < 500 || apart < 100 {
		t.Errorf("%d are made alike, and %d are not", alike, apart)
	}
}

// standsFor tells whether what got makes is made by all on the way to what it makes itself.
func standsFor(got, all []impl.Bind, types ...impl.Ty) bool {
	for _, b := range all {
		types = append(types, varTy(b.N))
	}
	for _, ty := range types {
		if toldTy(impl.Apply(all, impl.Apply(got, ty))) != toldTy(impl.Apply(all, ty)) {
			return false
		}
	}
	return true
}

// Promise 5: where some substitution makes types alike, one is found, and it stands for that one; pair behind pair, by one substitution.
func TestWhatSomeSubstitutionMakesAlikeIsFound(t *testing.T) {
	s := steps(37)
	binds, pairs := 0, 0
	for i := range 3000 {
		l := lifter{steps: &s, from: []int{100, 0, math.MaxInt - 1000}[i%3]}
		rigid := []int{4, 0, 4}[i%3]
		var got []impl.Bind
		for range 1 + s.below(4) {
			whole := s.randomTy(rigid, 1+s.below(4))
			a, b := l.lifted(whole), l.lifted(whole)
			if impl.TySize(whole) > tyMost/4 {
				continue
			}
			before := got
			if !holdUnify(t, before, a, b) {
				t.Fatalf("with %s %s and %s are not made alike, though they are by %s", toldBinds(before), toldTy(a), toldTy(b), toldBinds(l.stands))
			}
			got, _ = impl.Unify(before, a, b)
			if !standsFor(got, l.stands, a, b) {
				t.Fatalf("%s does not stand for %s, which makes %s and %s alike", toldBinds(got), toldBinds(l.stands), toldTy(a), toldTy(b))
			}
			pairs++
		}
		binds += len(got)
	}
	if binds < 3000 || pairs < 5000 {
		t.Errorf("%d Binds were found for %d pairs", binds, pairs)
	}
}

// All pairs of small types, with all substitutions of small types: what one of them makes alike is found, and what is found one of them makes alike.
func TestAllSmallTypes(t *testing.T) {
	types, stands := smallTys(4, 0, 1), smallTys(4, 2)
	var all [][]impl.Bind
	for _, x := range stands {
		for _, y := range stands {
			all = append(all, []impl.Bind{{N: 0, Ty: x}, {N: 1, Ty: y}})
		}
	}
	made := make([][]string, len(types))
	for i, ty := range types {
		for _, s := range all {
			made[i] = append(made[i], toldTy(applyBy(s, ty)))
		}
	}
	alike := 0
	for i, a := range types {
		for j, b := range types {
			found := holdUnify(t, nil, a, b)
			got, _ := impl.Unify(nil, a, b)
			some := false
			for k, s := range all {
				if made[i][k] != made[j][k] {
					continue
				}
				some = true
				if !found || !standsFor(got, s, a, b) {
					t.Fatalf("%s makes %s and %s alike; found is (%v) %s", toldBinds(s), toldTy(a), toldTy(b), found, toldBinds(got))
				}
			}
			if found && !some {
				t.Fatalf("%s and %s are made alike by %s, and by no substitution", toldTy(a), toldTy(b), toldBinds(got))
			}
			if found {
				alike++
			}
		}
	}
	if alike < 200 {
		t.Errorf("only %d pairs are made alike", alike)
	}
}

// Each new Bind stands behind all that were there, in the order in which they are met from the left, whatever its number.
func TestBindsStandInOrder(t *testing.T) {
	for _, order := range [][]int{{0, 1, 2, 3}, {3, 2, 1, 0}, {2, 0, 3, 1}, {1000, 5, math.MaxInt, 0}} {
		s := []impl.Bind{{N: 70, Ty: varTy(71)}, {N: 20, Ty: varTy(21)}, {N: 90, Ty: intTy()}}
		want := []int{70, 20, 90}
		a, b := dataTy("P"), dataTy("P")
		for i, n := range order {
			a.Kids, b.Kids = append(a.Kids, varTy(n)), append(b.Kids, dataTy("K"+strconv.Itoa(i)))
			want = append(want, n)
		}
		for range 20 { // a map is gone through in another order each time
			got, ok := impl.Unify(s, a, b)
			var vars []int
			for _, bound := range got {
				vars = append(vars, bound.N)
			}
			if !ok || !slices.Equal(vars, want) {
				t.Fatalf("the Binds are of %v, not of %v", vars, want)
			}
		}
	}
}

func TestUnifyWithManyBinds(t *testing.T) {
	var s []impl.Bind
	for n := range 3000 {
		s = append(s, impl.Bind{N: 3 * (n * 7 % 3000), Ty: funTy(varTy(1), varTy(3*n+1))})
	}
	got, ok := impl.Unify(s, dataTy("P", varTy(1), varTy(2)), dataTy("P", intTy(), varTy(3)))
	if !ok || len(got) != 3002 || got[3000].N != 1 || got[3001].N != 2 {
		t.Fatal("with many Binds types are not made alike")
	}
	for i, bound := range s {
		want := impl.Apply([]impl.Bind{{N: 1, Ty: intTy()}}, bound.Ty)
		if got[i].N != bound.N || toldTy(got[i].Ty) != toldTy(want) {
			t.Fatalf("Bind %d is of %d: %s", i, got[i].N, toldTy(got[i].Ty))
		}
	}
	a, b := dataTy("P"), dataTy("P")
	for n := range tyMost - 1 {
		a.Kids, b.Kids = append(a.Kids, varTy(2*n)), append(b.Kids, varTy(2*n+1))
	}
	if got, ok := impl.Unify(nil, a, b); !ok || len(got) != tyMost-1 {
		t.Error("many vars are not made alike")
	}
	for n := range tyMost - 1 {
		a.Kids[n], b.Kids[n] = varTy(n), varTy((n+1)%(tyMost-1))
	}
	if got, ok := impl.Unify(nil, a, b); !ok || len(got) != tyMost-2 || got[0].Ty.N != tyMost-2 {
		t.Error("vars in a ring are not made alike")
	}
}

// bindsWithRoom has something in the room behind each of its lists.
func bindsWithRoom(s []impl.Bind) []impl.Bind {
	var list []impl.Bind
	for _, b := range s {
		list = append(list, impl.Bind{N: b.N, Ty: tyWithRoom(b.Ty)})
	}
	return roomBehind(list, impl.Bind{N: 78, Ty: varTy(79)})
}

func tyWithRoom(t impl.Ty) impl.Ty { return typesWithRoom([]impl.Ty{t})[0] }

func toldBindsWithRoom(s []impl.Bind) string {
	text := ""
	for _, b := range s[:cap(s)] {
		text += strconv.Itoa(b.N) + toldTyWithRoom(b.Ty)
	}
	return text
}

func addBinds(lists, texts *pieces, s []impl.Bind) {
	addList(lists, s)
	for _, b := range s {
		addTy(lists, texts, b.Ty)
	}
}

func spoilTy(t impl.Ty) {
	for i := range t.Kids {
		spoilTy(t.Kids[i])
		t.Kids[i] = impl.Ty{Op: 99, N: i, S: "gone"}
	}
}

// No argument is written into, nor the room behind it; what is told is new, each list of it by itself.
func TestUnifyIsNewMemory(t *testing.T) {
	s := steps(38)
	told := map[bool]int{}
	for i := range 3000 {
		list, a, b := s.randomBinds(3, 6*s.below(2), 6), s.randomTy(8, 1+s.below(4)), s.randomTy(8, 1+s.below(4))
		if i%5 == 0 {
			list, a, b = bindsOf("a = P b c (L b); d = b -> L c"), tyOf("P b e c"), tyOf("P (L x) (M x c x) (L x)")
		}
		if i%7 == 0 {
			all := tysIn(&a)
			s.turnType(all[s.below(len(all))])
		}
		list, a, b = bindsWithRoom(list), tyWithRoom(a), tyWithRoom(b)
		kept := toldBindsWithRoom(list) + toldTyWithRoom(a) + toldTyWithRoom(b)
		var lists, texts pieces
		addBinds(&lists, &texts, list)
		addTy(&lists, &texts, a)
		addTy(&lists, &texts, b)

		binds, ok := impl.Unify(list, a, b)
		ty := impl.Apply(list, a)
		want := toldBinds(binds) + toldTy(ty)
		vars := impl.FreeVars(a)
		impl.TyOk(a)
		impl.TySize(a)
		impl.SubOk(list)
		told[ok]++
		addBinds(&lists, &texts, binds)
		addTy(&lists, &texts, ty)
		addList(&lists, vars)
		if lists.overlap() {
			t.Fatalf("with %s %s and %s: two lists share memory", toldBinds(list), toldTy(a), toldTy(b))
		}
		if texts.overlap() {
			t.Fatalf("with %s %s and %s: two texts share memory", toldBinds(list), toldTy(a), toldTy(b))
		}
		for _, bound := range binds {
			spoilTy(bound.Ty)
		}
		spoilTy(ty)
		clear(vars[:cap(vars)])
		clear(binds[:cap(binds)])
		if toldBindsWithRoom(list)+toldTyWithRoom(a)+toldTyWithRoom(b) != kept {
			t.Fatalf("%s is written into", kept)
		}
		binds, again := impl.Unify(list, a, b)
		if again != ok || toldBinds(binds)+toldTy(impl.Apply(list, a)) != want {
			t.Fatalf("asked again, with %s, %s and %s are made alike by %s", toldBinds(list), toldTy(a), toldTy(b), toldBinds(binds))
		}
	}
	if told[true] < 500 || told[false] < 500 {
		t.Errorf("%d are made alike, and %d are not", told[true], told[false])
	}
}
