package tests

import (
	"math"
	"slices"
	"strings"
	"testing"
	"time"

	"loop.example/g00323/impl"
)

// schemesOf reads schemes from a text: "a b: a -> c; : b" has two, the first one for all a and b.
func schemesOf(text string) []impl.Scheme {
	var list []impl.Scheme
	if text == "" {
		return list
	}
	for part := range strings.SplitSeq(text, ";") {
		vars, ty, _ := strings.Cut(part, ":")
		s := impl.Scheme{Ty: tyOf(ty)}
		for name := range strings.FieldsSeq(vars) {
			s.Vars = append(s.Vars, tyOf(name).N)
		}
		list = append(list, s)
	}
	return list
}

// genericBy asks each var of t by itself.
func genericBy(env []impl.Scheme, t impl.Ty) []int {
	return slices.DeleteFunc(freeVarsBy(t), func(n int) bool {
		return slices.ContainsFunc(env, func(s impl.Scheme) bool {
			return slices.Contains(freeVarsBy(s.Ty), n) && !slices.Contains(s.Vars, n)
		})
	})
}

func wantGeneric(t *testing.T, env []impl.Scheme, ty impl.Ty, want []int) {
	t.Helper()
	if got := impl.Generic(env, ty); !slices.Equal(got, want) || !slices.Equal(genericBy(env, ty), want) {
		t.Errorf("Generic of %s is %v, not %v", short(toldTy(ty)), got, want)
	}
}

func TestGeneric(t *testing.T) {
	for _, c := range []struct {
		env, ty string
		want    []int
	}{
		{"", "Int", nil}, {"", "a", []int{0}}, {"", "b -> a", []int{0, 1}}, {"", "z -> L a -> P m z", []int{0, 12, 25}}, {"", "L", nil},
		{": a", "a", nil}, {": a", "b", []int{1}}, {": a", "a -> b", []int{1}}, {": Int", "a -> b", []int{0, 1}}, {": L", "a", []int{0}}, {": P Int (L (a -> Int))", "c -> a", []int{2}}, {": a", "Int", nil},
		{": a; : b", "P c b a", []int{2}}, {": b; : a", "a -> b", nil}, {": c -> d; : Int; : a", "P d c b a", []int{1}}, {": a; : a", "a -> b", []int{1}},
		// Vars that are in their own Ty
		{"a: a", "a", []int{0}}, {"a: a -> b", "a -> b", []int{0}}, {"a b: a -> b", "a -> b", []int{0, 1}}, {"b a: a -> b", "a -> b", []int{0, 1}}, {"b: a -> b -> b", "P c b a", []int{1, 2}}, {"a a: a -> b", "b -> a", []int{0}},
		// and Vars that are not
		{"b: a", "a", nil}, {"b: a", "b", []int{1}}, {"b: a", "a -> b", []int{1}}, {"a: Int", "a", []int{0}}, {"a b c: d", "P a b c d", []int{0, 1, 2}}, {"c: a -> b", "P a b c", []int{2}},
		// Vars are those of their own scheme alone.
		{"a: a; : a", "a", nil}, {": a; a: a", "a", nil}, {"a: a; a: a", "a", []int{0}}, {"a: b; b: a", "a -> b", nil}, {"a: a -> b; b: a -> b", "a -> b", nil}, {"a: Int; : a", "a -> b", []int{1}}, {"a b: P a b; c: P a c", "P a b c", []int{1, 2}},
	} {
		wantGeneric(t, schemesOf(c.env), tyOf(c.ty), c.want)
	}
	for _, env := range [][]impl.Scheme{nil, {}, {{Ty: intTy()}}, {{}}, {{Vars: []int{0, 1, -1}}}} {
		wantGeneric(t, env, funTy(varTy(1), varTy(0)), []int{0, 1})
		wantGeneric(t, env, impl.Ty{}, nil)
	}
}

func TestGenericOfWhatIsNotRight(t *testing.T) {
	odd := dataTy("", varTy(math.MaxInt), varTy(-1), impl.Ty{Op: 7, N: 5, Kids: []impl.Ty{varTy(3)}}, varTy(math.MinInt), varTy(-1), impl.Ty{N: 9}, impl.Ty{Op: impl.TyVar, N: 1, S: "x", Kids: []impl.Ty{varTy(2), varTy(1)}})
	wantGeneric(t, nil, odd, []int{math.MinInt, -1, 1, 2, 3, math.MaxInt})
	wantGeneric(t, []impl.Scheme{{Ty: odd}}, odd, nil)
	wantGeneric(t, []impl.Scheme{{Vars: []int{3, math.MinInt, 77, 3, -1}, Ty: odd}}, odd, []int{math.MinInt, -1, 3})
	wantGeneric(t, []impl.Scheme{{Vars: []int{math.MaxInt}, Ty: varTy(math.MinInt)}, {Ty: impl.Ty{Op: 9, Kids: []impl.Ty{varTy(-1)}}}}, odd, []int{1, 2, 3, math.MaxInt})
	for _, wrong := range wrongTys() {
		for _, ty := range about(wrong) {
			wantGeneric(t, nil, ty, freeVarsBy(ty))
			wantGeneric(t, []impl.Scheme{{Ty: ty}}, ty, nil)
			wantGeneric(t, []impl.Scheme{{Vars: []int{1, 2}, Ty: ty}}, ty, slices.DeleteFunc(freeVarsBy(ty), func(n int) bool { return n != 1 && n != 2 }))
		}
	}
}

func copiedTy(t impl.Ty) impl.Ty { return applyBy(nil, t) }

func TestGenericOfRandomSchemes(t *testing.T) {
	s := steps(74)
	some := 0
	pool := smallTys(5, 0, 1, 2, 3, 8)
	for range 10000 {
		ty := pool[s.below(len(pool))]
		var env []impl.Scheme
		for left := s.below(4); left > 0; left-- {
			one := impl.Scheme{Ty: copiedTy(pool[s.below(len(pool))])}
			for vars := s.below(5); vars > 0; vars-- {
				one.Vars = append(one.Vars, s.below(10)-1)
			}
			if s.below(5) == 0 {
				all := tysIn(&one.Ty)
				s.turnType(all[s.below(len(all))])
			}
			env = append(env, one)
		}
		want := genericBy(env, ty)
		wantGeneric(t, env, ty, want)
		if len(want) > 0 && len(want) < len(freeVarsBy(ty)) {
			some++
		}
		if t.Failed() {
			return
		}
	}
	if some < 500 {
		t.Errorf("only %d times are some vars for all, and some are not", some)
	}
}

// quickly fails where an answer does not come.
func quickly(t *testing.T, what string, ask func()) {
	t.Helper()
	done := make(chan bool)
	go func() { ask(); close(done) }()
	select {
	case <-done:
	case <-time.After(20 * time.Second):
		t.Fatal(what, "is not answered")
	}
}

func TestGenericOfGreatTypes(t *testing.T) {
	const many = 100000
	for i, ty := range greatTys(many, varTy(5)) {
		quickly(t, "a great type", func() {
			for _, c := range []struct {
				env  []impl.Scheme
				want []int
			}{{nil, []int{5}}, {[]impl.Scheme{{Ty: ty}}, nil}, {[]impl.Scheme{{Vars: []int{5}, Ty: ty}}, []int{5}}, {[]impl.Scheme{{Vars: []int{4}, Ty: ty}}, nil}} {
				if got := impl.Generic(c.env, ty); !slices.Equal(got, c.want) {
					t.Errorf("Generic of great type %d is %v, not %v", i, got, c.want)
				}
			}
		})
	}
	wide, other := dataTy("W"), impl.Scheme{Ty: dataTy("W")}
	var want []int
	for n := range many {
		wide.Kids = append(wide.Kids, varTy(n*7%many))
		other.Ty.Kids = append(other.Ty.Kids, varTy(n))
		if n%3 > 0 {
			other.Vars = append(other.Vars, n)
			want = append(want, n)
		}
	}
	quickly(t, "a type of many vars", func() {
		if got := impl.Generic([]impl.Scheme{other}, wide); !slices.Equal(got, want) {
			t.Errorf("of %d vars %d are for all, not %d", many, len(got), len(want))
		}
	})
}

// A type that is shared, or within itself, has the vars that it has.
func TestGenericOfTypesWithoutEnd(t *testing.T) {
	round := []impl.Ty{varTy(3), intTy(), varTy(1)}
	round[1] = impl.Ty{Op: impl.TyData, S: "R", Kids: round}
	twice := funTy(varTy(3), varTy(1))
	for range 200 {
		twice = funTy(twice, twice)
	}
	for _, ty := range []impl.Ty{round[1], funTy(intTy(), round[1]), twice} {
		quickly(t, "a type without end", func() {
			if got := impl.FreeVars(ty); !slices.Equal(got, []int{1, 3}) {
				t.Errorf("FreeVars of a type without end is %v", got)
			}
			if got := impl.Generic([]impl.Scheme{{Ty: varTy(3)}}, ty); !slices.Equal(got, []int{1}) {
				t.Errorf("Generic of a type without end is %v", got)
			}
			if got := impl.Generic([]impl.Scheme{{Vars: []int{3}, Ty: ty}}, funTy(varTy(1), funTy(varTy(2), varTy(3)))); !slices.Equal(got, []int{2, 3}) {
				t.Errorf("Generic with a type without end is %v", got)
			}
		})
	}
}

func eraseBy(t impl.Typed) impl.Node {
	n := impl.Node{Op: t.Op, N: t.N, S: t.S, T: t.T}
	for _, kid := range t.Kids {
		n.Kids = append(n.Kids, eraseBy(kid))
	}
	return n
}

// randomTyped was never found by anyone.
func (s *steps) randomTyped(deep int) impl.Typed {
	t := impl.Typed{Op: s.below(24) - 2, N: someNumber(s), S: someText(s), T: someText(s), Ty: s.randomTy(4, 1+s.below(3))}
	for left := s.below(3); left > 0; left-- {
		t.Inst = append(t.Inst, s.randomTy(4, 1+s.below(2)))
		t.Vars = append(t.Vars, someNumber(s))
	}
	if deep > 1 {
		for left := s.below(4); left > 0; left-- {
			t.Kids = append(t.Kids, s.randomTyped(deep-1))
		}
	}
	return t
}

func TestErase(t *testing.T) {
	for _, src := range []string{"1", "fun x -> x", "let i = fun x -> x in i (i 3)", "rec f x = f x in f", "case C 1 N of { N -> 0; C x (C _ y) -> x; C 3 _ -> put 4 }", "if 1 < 2 then 3 == 4 else 5 - 6 * 7 + 8", "P U (B N)"} {
		p := progOf(src)
		found, how := impl.Infer(p)
		if how != impl.IfDone || told(impl.Erase(found)) != told(p.Main) {
			t.Errorf("Erase of what is found of %s is %s (%d)", src, told(impl.Erase(found)), how)
		}
	}
	if got := impl.Erase(impl.Typed{}); told(got) != told(impl.Node{}) {
		t.Errorf("Erase of nothing is %s", told(got))
	}
	s := steps(75)
	for range 3000 {
		ty := s.randomTyped(1 + s.below(5))
		if got := impl.Erase(ty); told(got) != told(eraseBy(ty)) {
			t.Fatalf("Erase(%s) is %s", toldTyped(ty), told(got))
		}
	}
}

func TestEraseOfGreatTrees(t *testing.T) {
	const many = 300000
	deep, wide := impl.Typed{Op: impl.NdNum, N: 7}, impl.Typed{Op: impl.NdCon, S: "W"}
	for range many {
		deep = impl.Typed{Op: impl.NdFun, S: "x", Ty: intTy(), Kids: []impl.Typed{deep}}
		wide.Kids = append(wide.Kids, impl.Typed{Op: impl.NdVar, S: "y", Vars: []int{1}})
	}
	n := impl.Erase(deep)
	for range many {
		if n.Op != impl.NdFun || n.S != "x" || len(n.Kids) != 1 {
			t.Fatal("a deep tree is not erased")
		}
		n = n.Kids[0]
	}
	if told(n) != told(aNum(7)) {
		t.Errorf("what is within a deep tree is %s", told(n))
	}
	n = impl.Erase(wide)
	if n.Op != impl.NdCon || n.S != "W" || len(n.Kids) != many || slices.ContainsFunc(n.Kids, func(kid impl.Node) bool { return kid.Op != impl.NdVar || kid.S != "y" || len(kid.Kids) != 0 }) {
		t.Error("a wide tree is not erased")
	}
}

func addTyped(lists, texts *pieces, t impl.Typed) {
	addList(lists, t.Kids)
	addList(lists, t.Inst)
	addList(lists, t.Vars)
	texts.addText(t.S)
	texts.addText(t.T)
	addTy(lists, texts, t.Ty)
	for _, inst := range t.Inst {
		addTy(lists, texts, inst)
	}
	for _, kid := range t.Kids {
		addTyped(lists, texts, kid)
	}
}

func spoilTyped(t impl.Typed) {
	spoilTy(t.Ty)
	for _, inst := range t.Inst {
		spoilTy(inst)
	}
	clear(t.Inst[:cap(t.Inst)])
	clear(t.Vars[:cap(t.Vars)])
	for _, kid := range t.Kids {
		spoilTyped(kid)
	}
	clear(t.Kids[:cap(t.Kids)])
}

// typedWithRoom has something in the room behind each of its lists.
func typedWithRoom(t impl.Typed) impl.Typed {
	made := impl.Typed{Op: t.Op, N: t.N, S: strings.Clone(t.S), T: strings.Clone(t.T), Ty: tyWithRoom(t.Ty), Inst: typesWithRoom(t.Inst), Vars: roomBehind(t.Vars, 76)}
	for _, kid := range t.Kids {
		made.Kids = append(made.Kids, typedWithRoom(kid))
	}
	made.Kids = roomBehind(made.Kids, impl.Typed{Op: 75})
	return made
}

func toldTypedWithRoom(t impl.Typed) string {
	all := impl.Typed{Op: t.Op, N: t.N, S: t.S, T: t.T, Inst: t.Inst[:cap(t.Inst)], Vars: t.Vars[:cap(t.Vars)]}
	text := toldTyped(all) + toldTyWithRoom(t.Ty)
	for _, inst := range t.Inst {
		text += toldTyWithRoom(inst)
	}
	for _, kid := range t.Kids[:cap(t.Kids)] {
		text += toldTypedWithRoom(kid)
	}
	return text
}

// No program is written into, nor the room behind its lists; what is found is new, each list of it by itself.
func TestTypesAreNewMemory(t *testing.T) {
	s := steps(76)
	met := map[int]int{}
	for i := range 3000 {
		p := s.madeProg(1 + i%5)
		for left := s.below(3) - 1; left > 0; left-- {
			s.swappedNode(&p)
		}
		if i%7 == 0 {
			s.turned(&p)
		}
		p = withRoom(p)
		kept := toldWithRoom(p)
		found, how := impl.Infer(p)
		met[how]++
		want := toldTyped(found)
		var lists, texts pieces
		addProg(&lists, &texts, p)
		addTyped(&lists, &texts, found)
		if lists.overlap() || texts.overlap() {
			t.Fatalf("Infer(%s): two lists or texts share memory", toldProg(p))
		}
		spoilTyped(found)
		if toldWithRoom(p) != kept {
			t.Fatalf("%s was written into", kept)
		}
		if again, code := impl.Infer(p); code != how || toldTyped(again) != want {
			t.Fatalf("asked again, Infer(%s) is %d and %s, not %s", toldProg(p), code, toldTyped(again), want)
		}
	}
	if met[impl.IfDone] < 1000 || len(met) < 4 {
		t.Errorf("the codes are %v", met)
	}
}

func TestEraseAndGenericAreNewMemory(t *testing.T) {
	s := steps(77)
	for i := range 2000 {
		typed := s.randomTyped(1 + s.below(4))
		if i%2 == 0 {
			typed, _ = impl.Infer(s.madeProg(1 + s.below(4)))
		}
		typed = typedWithRoom(typed)
		var env []impl.Scheme
		for _, part := range typedIn(&typed) {
			env = append(env, impl.Scheme{Vars: part.Vars, Ty: part.Ty})
		}
		env = roomBehind(env, impl.Scheme{Ty: varTy(1)})
		kept := toldTypedWithRoom(typed)
		var lists, texts pieces
		addTyped(&lists, &texts, typed)
		n, vars := impl.Erase(typed), impl.Generic(env, typed.Ty)
		want, wantVars := told(n), slices.Clone(vars)
		addNode(&lists, &texts, n)
		addList(&lists, vars)
		if lists.overlap() || texts.overlap() {
			t.Fatalf("Erase(%s): two lists or texts share memory", toldTyped(typed))
		}
		spoilNode(n)
		clear(n.Kids[:cap(n.Kids)])
		clear(vars[:cap(vars)])
		if toldTypedWithRoom(typed) != kept || len(env[:cap(env)][len(env)].Vars) > 0 || env[:cap(env)][len(env)].Ty.N != 1 {
			t.Fatalf("%s was written into", kept)
		}
		if got, again := told(impl.Erase(typed)), impl.Generic(env, typed.Ty); got != want || !slices.Equal(again, wantVars) {
			t.Fatalf("asked again, Erase(%s) is %s, and Generic is %v, not %v", toldTyped(typed), got, again, wantVars)
		}
	}
}
