package tests

import (
	"math"
	"regexp"
	"slices"
	"strconv"
	"strings"
	"testing"

	"loop.example/g00323/impl"
)

func wantInstance(t *testing.T, s impl.Scheme, list []impl.Ty, want impl.Ty) {
	t.Helper()
	if got, ok := impl.Instance(s, list); !ok || toldTy(got) != toldTy(want) {
		t.Errorf("Instance of %v %s is %s (%v), not %s", s.Vars, short(toldTy(s.Ty)), short(toldTy(got)), ok, short(toldTy(want)))
	}
}

// typesRead reads types from a text, with ; between.
func typesRead(text string) []impl.Ty {
	var list []impl.Ty
	if text == "" {
		return list
	}
	for part := range strings.SplitSeq(text, ";") {
		list = append(list, tyOf(part))
	}
	return list
}

func TestInstance(t *testing.T) {
	for _, c := range [][3]string{
		{": Int", "", "Int"}, {": a -> b", "", "a -> b"}, {"a: a", "Int", "Int"}, {"a: a", "a", "a"}, {"a: a -> b", "Int", "Int -> b"}, {"b: a -> b", "Int", "a -> Int"}, {"a: P a (L a) b", "b -> a", "P (b -> a) (L (b -> a)) b"},
		{"a b: a -> b", "Int; L", "Int -> L"}, {"b a: a -> b", "Int; L", "L -> Int"}, {"a b c: P c a b", "Int; L; M", "P M Int L"},
		// All at once: what comes in is not turned again.
		{"a b: a -> b", "b; a", "b -> a"}, {"a b: a -> b", "b; Int", "b -> Int"}, {"b a: a -> b", "a; b", "b -> a"}, {"a: L a", "L a", "L (L a)"}, {"a b: P a b", "P a b; P a b", "P (P a b) (P a b)"},
		// Vars that are twice there: the first one counts.
		{"a a: a", "Int; L", "Int"}, {"a a: a -> b", "L; Int", "L -> b"}, {"a b a: a -> b", "Int; L; M", "Int -> L"}, {"b a a b: a -> b", "Int; L; M; a", "L -> Int"}, {"a a a: b", "Int; L; M", "b"},
		// Vars that are not in it
		{"b: a", "Int", "a"}, {"b: Int", "L", "Int"}, {"a b c: b", "Int; L; M", "L"}, {"c b: a -> b", "Int; L", "a -> L"},
	} {
		s := schemesOf(c[0])[0]
		wantInstance(t, s, typesRead(c[1]), tyOf(c[2]))
		wantInstance(t, s, typesRead(c[1]), standIn(s.Ty, s.Vars, typesRead(c[1])))
	}
}

func TestInstanceOfOtherThanSoMany(t *testing.T) {
	for _, s := range schemesOf(": Int; : a; a: a; a: Int; a a: a; a b: a -> b; b a: a -> b; a b c d: P a b c d; b c: a") {
		for many := range 8 {
			list := slices.Repeat([]impl.Ty{intTy()}, many)
			got, ok := impl.Instance(s, list)
			if ok != (many == len(s.Vars)) {
				t.Errorf("Instance with %d types for %v is %v", many, s.Vars, ok)
			}
			if !ok && toldTy(got) != toldTy(impl.Ty{}) {
				t.Errorf("beside a false stands %s", toldTy(got))
			}
		}
	}
	if got, ok := impl.Instance(impl.Scheme{}, nil); !ok || toldTy(got) != toldTy(impl.Ty{}) {
		t.Errorf("Instance of nothing is %s (%v)", toldTy(got), ok)
	}
	if got, ok := impl.Instance(impl.Scheme{Vars: []int{}, Ty: varTy(1)}, []impl.Ty{}); !ok || toldTy(got) != toldTy(varTy(1)) {
		t.Errorf("Instance of a var that is not for all is %s (%v)", toldTy(got), ok)
	}
}

func TestInstanceOfWhatIsNotRight(t *testing.T) {
	all := []impl.Ty{intTy(), dataTy("One"), dataTy("Seven"), dataTy("Low"), dataTy("Least"), {Op: 9, N: 8, S: "x", Kids: []impl.Ty{varTy(1)}}}
	vars := []int{0, 1, 7, -1, math.MinInt, math.MaxInt}
	for _, wrong := range wrongTys() {
		for _, ty := range about(wrong) {
			wantInstance(t, impl.Scheme{Ty: ty}, nil, ty)
			wantInstance(t, impl.Scheme{Vars: vars, Ty: ty}, all, standIn(ty, vars, all))
			wantInstance(t, impl.Scheme{Vars: []int{4}, Ty: funTy(varTy(4), varTy(5))}, []impl.Ty{ty}, funTy(ty, varTy(5)))
		}
	}
	wantInstance(t, impl.Scheme{Vars: vars, Ty: dataTy("", varTy(-1), varTy(math.MinInt), varTy(math.MaxInt))}, all, dataTy("", all[3], all[4], all[5]))
	// It may be as large as it is.
	wantInstance(t, impl.Scheme{Vars: []int{0}, Ty: flat(tyMost, varTy(0))}, []impl.Ty{flat(tyMost, intTy())}, flat(tyMost, flat(tyMost, intTy())))
}

func TestInstanceOfRandomSchemes(t *testing.T) {
	s := steps(86)
	for range 10000 {
		scheme := impl.Scheme{Ty: s.randomTy(6, 1+s.below(5))}
		if s.below(4) == 0 {
			all := tysIn(&scheme.Ty)
			s.turnType(all[s.below(len(all))])
		}
		var list []impl.Ty
		for left := s.below(5); left > 0; left-- {
			scheme.Vars = append(scheme.Vars, s.below(7)-1)
			list = append(list, s.randomTy(6, 1+s.below(3)))
		}
		wantInstance(t, scheme, list, standIn(scheme.Ty, scheme.Vars, list))
		if _, ok := impl.Instance(scheme, append(list, intTy())); ok {
			t.Fatal("one type more is taken")
		}
		if t.Failed() {
			return
		}
	}
}

// shownBy asks the text of all fields for the order of the vars.
func shownBy(t impl.Ty) string {
	numbers := map[string]int{}
	for _, found := range regexp.MustCompile(`<2 (-?\d+) "`).FindAllStringSubmatch(toldTy(t), -1) {
		if _, met := numbers[found[1]]; !met {
			numbers[found[1]] = len(numbers)
		}
	}
	made := copiedTy(t)
	for _, part := range tysIn(&made) {
		if part.Op == impl.TyVar {
			part.N = numbers[strconv.Itoa(part.N)]
		}
	}
	return tyTextBy(made)
}

func wantShown(t *testing.T, ty impl.Ty, want string) {
	t.Helper()
	if got := impl.TyShown(ty); got != want || shownBy(ty) != want {
		t.Errorf("TyShown(%s) is %s, not %s", short(toldTy(ty)), short(got), short(want))
	}
}

func TestTyShown(t *testing.T) {
	for text, want := range map[string]string{
		"Int": "Int", "L": "L", "a": "a", "b": "a", "z": "a", "a -> a": "(a -> a)", "b -> b": "(a -> a)", "a -> b": "(a -> b)", "b -> a": "(a -> b)", "h -> d -> h": "(a -> (b -> a))", "(c -> b) -> a": "((a -> b) -> c)", "c -> b -> a": "(a -> (b -> c))", "Int -> q": "(Int -> a)",
		"L z": "(L a)", "P b a": "(P a b)", "P b (P a b) (L c)": "(P a (P b a) (L c))", "L (L (L y)) -> x": "((L (L (L a))) -> b)", "P c (b -> a) (a -> b) c": "(P a (b -> c) (c -> b) a)", "P z y x w v u t s r q p o n m l k j i h g f e d c b a": "(P a b c d e f g h i j k l m n o p q r s t u v w x y z)",
	} {
		wantShown(t, tyOf(text), want)
		// Whatever the numbers are.
		for _, number := range []func(int) int{func(n int) int { return 25 - n }, func(n int) int { return 26*n + 5 }, func(n int) int { return n * 7 % 26 }, func(n int) int { return math.MaxInt - n }} {
			ty := tyOf(text)
			for _, part := range tysIn(&ty) {
				if part.Op == impl.TyVar {
					part.N = number(part.N)
				}
			}
			wantShown(t, ty, want)
		}
	}
	many, letters := dataTy("W"), ""
	for n := range 60 {
		many.Kids = append(many.Kids, varTy(1000-n))
		letters += " " + string(rune('a'+n%26))
	}
	many.Kids = append(many.Kids, varTy(1000), varTy(1000-26))
	wantShown(t, many, "(W"+letters+" a a)")
}

func TestTyShownOfWhatIsNotRight(t *testing.T) {
	i := intTy()
	for _, c := range []struct {
		ty   impl.Ty
		want string
	}{
		{impl.Ty{}, "?"}, {impl.Ty{Op: 5}, "?"}, {impl.Ty{Op: -1, Kids: []impl.Ty{varTy(1)}}, "?"}, {impl.Ty{Op: impl.TyFun}, "?"}, {impl.Ty{Op: impl.TyFun, Kids: []impl.Ty{i, i, i}}, "?"}, {dataTy(""), ""}, {dataTy("", varTy(5)), "( a)"},
		// A var below 0 is one, too.
		{varTy(-1), "a"}, {funTy(varTy(-1), varTy(math.MinInt)), "(a -> b)"}, {funTy(varTy(3), funTy(varTy(-3), varTy(3))), "(a -> (b -> a))"},
		// What is not written is within it all the same.
		{dataTy("L", impl.Ty{Op: 7, Kids: []impl.Ty{varTy(5)}}, varTy(3), varTy(5)), "(L ? b a)"}, {dataTy("L", impl.Ty{Op: impl.TyInt, Kids: []impl.Ty{varTy(5)}}, varTy(3)), "(L Int b)"}, {dataTy("L", impl.Ty{Op: impl.TyFun, Kids: []impl.Ty{varTy(5)}}, varTy(3)), "(L ? b)"}, {dataTy("L", impl.Ty{Op: impl.TyVar, N: 5, S: "x", Kids: []impl.Ty{varTy(4)}}, varTy(3), varTy(5)), "(L a c a)"},
	} {
		wantShown(t, c.ty, c.want)
	}
	for _, wrong := range wrongTys() {
		for _, ty := range about(wrong) {
			wantShown(t, ty, shownBy(ty))
		}
	}
}

func TestTyShownOfRandomTypes(t *testing.T) {
	s := steps(87)
	for range 10000 {
		ty := s.randomTy(40, 1+s.below(6))
		if s.below(3) == 0 {
			all := tysIn(&ty)
			s.turnType(all[s.below(len(all))])
		}
		if wantShown(t, ty, shownBy(ty)); t.Failed() {
			return
		}
		if impl.TyOk(ty) {
			again := copiedTy(ty)
			for _, part := range tysIn(&again) {
				if part.Op == impl.TyVar {
					part.N = 90 - part.N*2
				}
			}
			if impl.TyShown(again) != impl.TyShown(ty) {
				t.Fatalf("TyShown of %s hangs on the numbers of its vars", toldTy(ty))
			}
		}
	}
}

func wantSame(t *testing.T, a, b impl.Ty, want bool) {
	t.Helper()
	if impl.Same(a, b) != want || impl.Same(b, a) != want || (toldTy(a) == toldTy(b)) != want {
		t.Errorf("%s and %s are alike: %v, not %v", short(toldTy(a)), short(toldTy(b)), impl.Same(a, b), want)
	}
}

func TestSame(t *testing.T) {
	list := slices.Concat(rightTys(), wrongTys())
	for i, a := range list {
		wantSame(t, a, copiedTy(a), true)
		for _, b := range list[i+1:] {
			wantSame(t, a, b, toldTy(a) == toldTy(b))
		}
		for at, one := range about(a) {
			wantSame(t, one, about(copiedTy(a))[at], true)
			wantSame(t, one, about(dataTy("Other"))[at], false)
		}
	}
	// They part in each field, at the root and within.
	one := impl.Ty{Op: impl.TyData, N: 3, S: "L", Kids: []impl.Ty{varTy(1), intTy()}}
	for _, other := range []impl.Ty{{Op: impl.TyFun, N: 3, S: "L", Kids: one.Kids}, {Op: impl.TyData, N: 4, S: "L", Kids: one.Kids}, {Op: impl.TyData, N: 3, S: "M", Kids: one.Kids}, {Op: impl.TyData, N: 3, S: "L", Kids: one.Kids[:1]}, {Op: impl.TyData, N: 3, S: "L", Kids: one.Kids[1:]}, {Op: impl.TyData, N: 3, S: "L"}, {Op: impl.TyData, N: 3, S: "L", Kids: []impl.Ty{varTy(1), intTy(), intTy()}}, {Op: impl.TyData, N: 3, S: "L", Kids: []impl.Ty{intTy(), varTy(1)}}, {Op: impl.TyData, N: 3, S: "L", Kids: []impl.Ty{varTy(1), varTy(1)}}, {Op: impl.TyData, N: 3, S: "", Kids: one.Kids}, {Op: impl.TyData, N: 3, S: "L ", Kids: one.Kids}} {
		for at, ty := range about(one) {
			wantSame(t, ty, about(other)[at], false)
		}
	}
	// Nothing and no list are alike; vars are alike only where they are one.
	wantSame(t, impl.Ty{Op: impl.TyInt, Kids: []impl.Ty{}}, intTy(), true)
	wantSame(t, dataTy("L", impl.Ty{Op: impl.TyInt, Kids: make([]impl.Ty, 0, 9)}), dataTy("L", intTy()), true)
	wantSame(t, tyOf("a -> b"), tyOf("b -> a"), false)
	wantSame(t, tyOf("a -> a"), tyOf("b -> b"), false)
	wantSame(t, impl.Ty{}, impl.Ty{}, true)
	// Lists that share memory are as long as they are.
	kids := []impl.Ty{intTy(), intTy(), varTy(1)}
	wantSame(t, dataTy("P", dataTy("L", kids[:1]...), dataTy("L", kids...)), dataTy("P", dataTy("L", kids[1:2]...), dataTy("L", intTy(), intTy(), varTy(1))), true)
	wantSame(t, dataTy("P", dataTy("L", kids[:2]...), dataTy("L", kids[1:]...)), dataTy("P", dataTy("L", kids[:2]...), dataTy("L", kids[:2]...)), false)
	other := []impl.Ty{intTy(), intTy(), varTy(2)}
	wantSame(t, dataTy("P", dataTy("L", kids[:2]...), dataTy("L", kids...)), dataTy("P", dataTy("L", other[:2]...), dataTy("L", other...)), false)
	wantSame(t, dataTy("P", dataTy("L", kids...), dataTy("L", kids[:2]...)), dataTy("P", dataTy("L", other...), dataTy("L", other[:2]...)), false)
}

func TestSameOfAllSmallTypes(t *testing.T) {
	list := smallTys(4, 0, 1)
	for i, a := range list {
		for j, b := range list {
			if impl.Same(a, b) != (i == j) {
				t.Fatalf("%s and %s are alike: %v", toldTy(a), toldTy(b), i != j)
			}
		}
	}
}

func TestSameOfRandomTypes(t *testing.T) {
	s := steps(88)
	met := map[bool]int{}
	for range 20000 {
		a := s.randomTy(3, 1+s.below(5))
		b := copiedTy(a)
		if s.below(3) > 0 {
			all := tysIn(&b)
			s.turnType(all[s.below(len(all))])
		}
		want := toldTy(a) == toldTy(b)
		if wantSame(t, a, b, want); t.Failed() {
			return
		}
		met[want]++
	}
	if met[true] < 5000 || met[false] < 5000 {
		t.Errorf("types are alike and not %v times", met)
	}
}

func TestGreatTypesInChapter8(t *testing.T) {
	const many = 200000
	one, two, other := greatTys(many, varTy(5)), greatTys(many, varTy(5)), greatTys(many, varTy(6))
	for i, ty := range one {
		quickly(t, "a great type", func() {
			if !impl.Same(ty, ty) || !impl.Same(ty, two[i]) || impl.Same(ty, other[i]) || impl.Same(ty, one[(i+1)%4]) {
				t.Errorf("great type %d is not alike itself, or alike another one", i)
			}
			made, ok := impl.Instance(impl.Scheme{Vars: []int{5}, Ty: ty}, []impl.Ty{varTy(6)})
			if !ok || !impl.Same(made, other[i]) {
				t.Errorf("the instance of great type %d is another one", i)
			}
			if got, want := impl.TyShown(ty), strings.ReplaceAll(impl.TyText(ty), "f", "a"); got != want {
				t.Errorf("great type %d is shown otherwise", i)
			}
			if impl.CheckTyped(nil, typedFun("x", ty, typedNum())) || impl.CheckTyped(nil, typedRec("f", "x", ty, typedNum(), typedNum())) {
				t.Errorf("a tree with great type %d is checked", i)
			}
		})
	}
}

// A type that is shared, or within itself, is alike one that is so, too.
func TestSameOfTypesWithoutEnd(t *testing.T) {
	round := func(n int) impl.Ty {
		kids := []impl.Ty{varTy(3), intTy(), varTy(n)}
		kids[1] = impl.Ty{Op: impl.TyData, S: "R", Kids: kids}
		return kids[1]
	}
	twice := func(n int) impl.Ty {
		ty := varTy(n)
		for range 200 {
			ty = funTy(ty, ty)
		}
		return ty
	}
	for _, make := range []func(int) impl.Ty{round, twice} {
		quickly(t, "a type without end", func() {
			a, b, c := make(1), make(1), make(2)
			if !impl.Same(a, a) || !impl.Same(a, b) || impl.Same(a, c) || impl.Same(funTy(intTy(), a), funTy(intTy(), c)) {
				t.Error("types without end are alike, or not")
			}
			for _, typed := range withType(a) {
				if impl.CheckTyped(datasOf(someData), typed) {
					t.Error("a type without end is checked")
				}
			}
			// A con's type that is without end is no kid's.
			datas := []impl.Data{oneData("R", 3, oneCon("X", a))}
			for _, kid := range []impl.Typed{typedNum(), typedFun("x", intTy(), typedNum()), typedCon(impl.NdCon, "X", dataTy("R", intTy(), intTy(), intTy()))} {
				if impl.CheckTyped(datas, typedCon(impl.NdCon, "X", dataTy("R", intTy(), intTy(), intTy()), kid)) {
					t.Error("a con of a type without end is checked")
				}
			}
		})
	}
}

func TestGreatTrees(t *testing.T) {
	const many = 100000
	wide := oneData("W", 0, oneCon("W", slices.Repeat([]impl.Ty{intTy()}, many)...))
	datas := append(datasOf(someData), wide)
	one, i := typedNum(), intTy()
	deep := func(last impl.Typed, about func(impl.Typed) impl.Typed) impl.Typed {
		for range many {
			last = about(last)
		}
		return last
	}
	put := func(kid impl.Typed) impl.Typed {
		return impl.Typed{Op: impl.NdPut, Ty: i, Kids: []impl.Typed{kid}}
	}
	add := func(kid impl.Typed) impl.Typed {
		return impl.Typed{Op: impl.NdAdd, Ty: i, Kids: []impl.Typed{kid, one}}
	}
	let := func(kid impl.Typed) impl.Typed { return typedLet("x", one, kid) }
	first := func(kid impl.Typed) impl.Typed { return typedLet("x", kid, one) }
	rec := func(kid impl.Typed) impl.Typed { return typedRec("f", "x", i, kid, one) }
	body := func(kid impl.Typed) impl.Typed { return typedCase(one, patternAny(i), kid) }
	con := func(kid impl.Typed) impl.Typed {
		return typedCase(typedCon(impl.NdCon, "B", dataTy("B", i), kid), patternAny(dataTy("B", i)), one)
	}
	for at, about := range []func(impl.Typed) impl.Typed{put, add, let, first, rec, body, con} {
		quickly(t, "a deep tree", func() {
			if !impl.CheckTyped(datas, deep(one, about)) {
				t.Errorf("deep tree %d is not checked", at)
			}
			for _, wrong := range []impl.Typed{typedName("q", i), {}, typedCon(impl.NdCon, "U", i), patternAny(i)} {
				if impl.CheckTyped(datas, deep(wrong, about)) {
					t.Errorf("deep tree %d with something wrong in it is checked", at)
				}
			}
		})
	}
	all, names := typedCon(impl.NdCon, "W", dataTy("W")), typedCon(impl.PtCon, "W", dataTy("W"))
	for n := range many {
		all.Kids = append(all.Kids, one)
		names.Kids = append(names.Kids, patternName("v"+strconv.Itoa(n), i))
	}
	quickly(t, "a wide tree", func() {
		if !impl.CheckTyped(datas, all) || !impl.CheckTyped(datas, typedCase(all, names, typedName("v7", i))) || impl.CheckTyped(datas, typedCase(all, names, typedName("v", i))) {
			t.Error("a wide tree is not checked, or one with an unbound name is")
		}
		names.Kids[many-1].S = "v0"
		if impl.CheckTyped(datas, typedCase(all, names, one)) {
			t.Error("a wide pattern that binds a name twice is checked")
		}
		all.Kids[many-1].Ty = dataTy("U")
		if impl.CheckTyped(datas, all) {
			t.Error("a wide tree with a wrong kid is checked")
		}
	})
}

// A tree within itself is none. One whose lists share memory is one.
func TestTreesWithoutEnd(t *testing.T) {
	i, one := intTy(), typedNum()
	datas := datasOf(someData)
	let := []impl.Typed{one, typedLet("x", one, one)}
	let[1].Kids = let
	put := []impl.Typed{{Op: impl.NdPut, Ty: i}}
	put[0].Kids = put
	rec := []impl.Typed{typedRec("f", "x", i, one, one), one}
	rec[0].Kids = rec
	add := []impl.Typed{{Op: impl.NdAdd, Ty: i}, {Op: impl.NdAdd, Ty: i}}
	add[0].Kids, add[1].Kids = add, add
	body := []impl.Typed{patternName("x", i), typedCase(one, patternAny(i), one)}
	body[1].Kids[1].Kids = body
	pattern := []impl.Typed{typedCon(impl.PtCon, "C", dataTy("L", i)), typedCon(impl.PtCon, "C", dataTy("L", i))}
	pattern[0], pattern[1].Kids = patternAny(i), pattern
	quickly(t, "a tree without end", func() {
		for at, typed := range []impl.Typed{let[1], put[0], rec[0], add[0], body[1], typedCase(typedCon(impl.NdCon, "N", dataTy("L", i)), pattern[1], one)} {
			for _, whole := range []impl.Typed{typed, typedLet("y", typed, one), typedLet("y", one, typed)} {
				if impl.CheckTyped(datas, whole) {
					t.Errorf("tree %d, which is within itself, is checked", at)
				}
			}
		}
	})
	// The first of these two is in the list of the second one, which is in that of both.
	both := []impl.Typed{one, {Op: impl.NdPut, Ty: i}}
	both[1].Kids = both[:1]
	wantChecked(t, impl.Typed{Op: impl.NdAdd, Ty: i, Kids: both}, true)
	shared := impl.Typed{Op: impl.NdAdd, Ty: i, Kids: []impl.Typed{one, one}}
	for range 10 {
		shared = impl.Typed{Op: impl.NdAdd, Ty: i, Kids: []impl.Typed{shared, shared}}
	}
	wantChecked(t, shared, true)
	shared.Kids[0].Kids[1].Kids[0].Ty = dataTy("U")
	wantChecked(t, shared, false)
}

// No argument is written into, nor the room behind it; an instance is new, each list of it by itself.
func TestChapter8IsNewMemory(t *testing.T) {
	s := steps(89)
	met := map[bool]int{}
	for i := range 3000 {
		p := s.madeProg(1 + s.below(4))
		typed, _ := impl.Infer(p)
		for left := s.below(3); left > 0; left-- {
			s.turnTyped(&typed)
		}
		p, typed = withRoom(p), typedWithRoom(typed)
		all := typedIn(&typed)
		part := all[s.below(len(all))]
		scheme := impl.Scheme{Vars: roomBehind([]int{0, 1, 2, 1}[:s.below(5)], 76), Ty: part.Ty}
		var list []impl.Ty
		for range len(scheme.Vars) + i%5/4 {
			list = append(list, s.randomTy(3, 1+s.below(3)))
		}
		list = typesWithRoom(list)
		kept := toldWithRoom(p) + toldTypedWithRoom(typed) + toldTyWithRoom(impl.Ty{Kids: list})
		var lists, texts pieces
		addProg(&lists, &texts, p)
		addTyped(&lists, &texts, typed)
		addTy(&lists, &texts, impl.Ty{Kids: list})

		checked := impl.CheckTyped(p.Datas, typed)
		made, ok := impl.Instance(scheme, list)
		text := impl.TyShown(part.Ty)
		impl.Same(part.Ty, typed.Ty)
		met[checked]++
		addTy(&lists, &texts, made)
		texts.addText(text)
		if lists.overlap() || texts.overlap() {
			t.Fatalf("Instance of %s: two lists or texts share memory", toldTy(part.Ty))
		}
		want := toldTy(made)
		spoilTy(made)
		if toldWithRoom(p)+toldTypedWithRoom(typed)+toldTyWithRoom(impl.Ty{Kids: list}) != kept || !slices.Equal(scheme.Vars[:cap(scheme.Vars)][len(scheme.Vars):][:1], []int{76}) {
			t.Fatalf("%s is written into", kept)
		}
		again, okAgain := impl.Instance(scheme, list)
		if impl.CheckTyped(p.Datas, typed) != checked || okAgain != ok || toldTy(again) != want || impl.TyShown(part.Ty) != text {
			t.Fatalf("asked again, %s is told otherwise", toldTyped(typed))
		}
	}
	if met[true] < 500 || met[false] < 500 {
		t.Errorf("trees are checked and not %v times", met)
	}
}
