package tests

import (
	"slices"
	"testing"

	"loop.example/g00323/impl"
)

// Promise 10: what is typed and covered is not stuck, and its value is of its type; with more fuel it does what it did with less.

// isOf tells whether a value is of a type; no value is of a var, which would be of all types.
func isOf(datas []impl.Data, v impl.Value, ty impl.Ty) bool {
	switch ty.Op {
	case impl.TyInt:
		return v.Kind == impl.VlInt
	case impl.TyFun:
		return v.Kind == impl.VlFun
	case impl.TyData:
		data, con := impl.ConOf(datas, v.S)
		if v.Kind != impl.VlCon || data < 0 || datas[data].Name != ty.S {
			return false
		}
		args := argsOf(datas[data].Cons[con], ty)
		for i, arg := range args {
			if i < len(v.Kids) && !isOf(datas, v.Kids[i], arg) {
				return false
			}
		}
		return len(v.Kids) == len(args)
	}
	return false
}

func valueDeep(v impl.Value) int {
	deep := 0
	for _, kid := range v.Kids {
		deep = max(deep, valueDeep(kid))
	}
	return deep + 1
}

// holdTyped holds promise 10 of a program, whatever it is: with all fuel, and with each of these.
func holdTyped(t *testing.T, p impl.Prog, fuels ...int) (impl.Result, bool) {
	t.Helper()
	r := holdFuel(t, p, fuels...)
	typed, how := impl.Infer(p)
	if how != impl.IfDone || !impl.Covered(p) {
		return r, false
	}
	switch {
	case r.Code == impl.EvStuck:
		t.Fatalf("%s is typed and covered, and stuck", impl.Write(p))
	case r.Code == impl.EvDone && !isOf(p.Datas, r.Value, typed.Ty):
		t.Fatalf("%s is %s, which is not of %s", impl.Write(p), toldValue(r.Value), impl.TyText(typed.Ty))
	case r.Code == impl.EvDone && impl.ValueOk(p.Datas, r.Value) != (valueDeep(r.Value) <= tyMost):
		t.Fatalf("%s is %s, which is right: %v", impl.Write(p), toldValue(r.Value), impl.ValueOk(p.Datas, r.Value))
	}
	return r, true
}

func TestWhatIsTypedAndCoveredIsNotStuck(t *testing.T) {
	s := steps(111)
	met := map[int]int{}
	kinds := map[int]int{}
	ops := map[int]int{}
	told := 0
	for i := range 6000 {
		p := s.wholeProg(1 + i%6)
		r, typed := holdTyped(t, p, 1+s.below(10), 1+s.below(60), 1+s.below(400))
		if !typed {
			t.Fatalf("%s is not typed and covered", impl.Write(p))
		}
		met[r.Code]++
		kinds[r.Value.Kind]++
		countOps(p.Main, ops)
		if len(r.Out) > 0 {
			told++
		}
	}
	if met[impl.EvDone] < 4000 || met[impl.EvFuel] < 50 || kinds[impl.VlInt] < 500 || kinds[impl.VlCon] < 500 || kinds[impl.VlFun] < 500 || told < 200 {
		t.Errorf("the codes are %v, the kinds of values %v, and %d programs tell something", met, kinds, told)
	}
	for op := impl.NdNum; op <= impl.PtCon; op++ {
		if ops[op] < 300 {
			t.Errorf("only %d nodes are of kind %d", ops[op], op)
		}
	}
}

// Programs that have types and may miss something, and programs that have none: what is stuck is not typed, or misses something.
func TestMeaningOfSwappedPrograms(t *testing.T) {
	s := steps(112)
	met := map[int]int{}
	typed := map[bool]int{}
	for i := range 12000 {
		p := s.madeProg(1 + i%6)
		if i%2 == 0 {
			p = s.wholeProg(1 + i%6)
		}
		for left := s.below(4); left > 0; left-- {
			s.swappedNode(&p)
		}
		if i%9 == 0 {
			s.turned(&p)
		}
		r, is := holdTyped(t, p, s.below(10), 1+s.below(40), 1+s.below(200))
		met[r.Code]++
		typed[is]++
	}
	if met[impl.EvDone] < 3000 || met[impl.EvFuel] < 50 || met[impl.EvStuck] < 2000 || typed[true] < 2000 || typed[false] < 2000 {
		t.Errorf("the codes are %v, and programs are typed and covered and not %v times", met, typed)
	}
}

func TestMeaningOfRandomPrograms(t *testing.T) {
	s := steps(113)
	met := map[int]int{}
	for i := range 12000 {
		p := s.randomProg(2 + i%6)
		if i%3 > 0 {
			p.Datas = datasOf("data C = C C | Nil; data List a = Cons a (List a) | List | Data a a a | Let;")
		}
		r, _ := holdTyped(t, p, s.below(5), 1+s.below(20), 1+s.below(100))
		met[r.Code]++
	}
	if met[impl.EvDone] < 1000 || met[impl.EvStuck] < 5000 {
		t.Errorf("the codes are %v", met)
	}
}

func TestMeaningOfAllSmallTrees(t *testing.T) {
	bySize := make([][]impl.Node, 7)
	datas := datasOf(someData)
	met := map[int]int{}
	notStuck := 0
	for size := 1; size < len(bySize); size++ {
		bySize[size] = smallNodes(size, bySize)
		for i, n := range bySize[size] {
			p := impl.Prog{Datas: datas, Main: n}
			if size == 6 && i%10 > 0 {
				continue
			}
			r, typed := holdTyped(t, p, 1, 2, 3, 4, 5, 6, 7, 8)
			met[r.Code]++
			if typed {
				notStuck++
			}
		}
	}
	if met[impl.EvDone] < 1000 || met[impl.EvStuck] < 1000 || notStuck < 500 {
		t.Errorf("the codes are %v, and %d trees are typed and covered", met, notStuck)
	}
}

// typedPrograms are programs with their types, and what they mean.
func typedPrograms() [][3]string {
	return [][3]string{
		{"Int", "rec f n = if n < 2 then 1 else n * f (n - 1) in f 10", "done 3628800"},
		{"(L Int)", "rec f n = if n then C (put n) (f (n - 1)) else N in f 3", "done (C 3 (C 2 (C 1 N))): 3 2 1"},
		{"(L Int)", "rec a x = fun y -> case x of { N -> y; C h t -> C h (a t y) } in let l = C 1 (C 2 N) in a l (a l l)", "done (C 1 (C 2 (C 1 (C 2 (C 1 (C 2 N))))))"},
		{"(P (L (a -> a)) Int)", "let id = fun x -> x in P (C id (C (id id) N)) (id 3)", "done (P (C fun (C fun N)) 3)"},
		{"(Int -> Int)", "let twice = fun f -> fun x -> f (f x) in twice twice (fun x -> x + 1)", "done fun"},
		{"Int", "let twice = fun f -> fun x -> f (f x) in twice twice (fun x -> x + put 1) 0", "done 4: 1 1 1 1"},
		{"a", "rec f x = f x in f 1", "fuel"},
		{"(L a)", "N", "done N"},
		{"Int", "rec d t = case t of { L -> 0; U a -> 1 + d a; B a b -> let x = d a in let y = d b in if x < y then y + 1 else x + 1 } in d (B (U L) (B L (U (U L))))", "done 4"},
		{"(L T)", "rec f n = if n then C (if n == 2 then U L else L) (f (n - 1)) else N in f 3", "done (C L (C (U L) (C L N)))"},
		{"Int", "rec s l = case l of { N -> 0; C 0 t -> s t; C x (C 0 t) -> x + s t; C x t -> x * 2 + s t } in s (C 1 (C 0 (C 0 (C 5 (C 6 N)))))", "done 23"},
		{"(P Int Int)", "let swap = fun p -> case p of { P a b -> P b a } in let q = swap (P 1 2) in case swap q of { P a b -> swap (P (a + 10) b) }", "done (P 2 11)"},
		{"I", "case I 4 of { I x -> case P (I x) (I 5) of { P a _ -> a } }", "done (I 4)"},
	}
}

func TestMeaningOfTypedPrograms(t *testing.T) {
	for _, c := range typedPrograms() {
		p := evalProg(c[1])
		typed, how := impl.Infer(p)
		if got := impl.TyShown(typed.Ty); how != impl.IfDone || got != c[0] || !impl.Covered(p) {
			t.Errorf("%s is of %s", c[1], got)
		}
		r, _ := holdTyped(t, p, fuelsUpTo(400)...)
		if got := meansText(r); got != c[2] {
			t.Errorf("%s means %q, not %q", c[1], got, c[2])
		}
	}
}

// Without types, or where something is missed, the same may be stuck.
func TestWhatIsNotTypedOrNotCoveredMayBeStuck(t *testing.T) {
	for src, typed := range map[string]bool{"case N of { C x t -> 1 }": true, "case 1 of { 0 -> 1 }": true, "rec f l = case l of { C x t -> f t } in f (C 1 N)": true, "let f = fun x -> case x of { P 1 y -> y } in f (P 2 3)": true, "1 2": false, "N + 1": false, "x": false, "C 1": false, "if N then 1 else 2": false, "(fun x -> x + 1) N": false, "case 1 of { N -> 1; C _ _ -> 2 }": false} {
		p := evalProg(src)
		_, how := impl.Infer(p)
		if r, both := holdTyped(t, p, fuelsUpTo(20)...); both || r.Code != impl.EvStuck || (how == impl.IfDone) != typed {
			t.Errorf("%s is %s, and has types: %v", src, toldResult(r), how == impl.IfDone)
		}
	}
}

// Each pair of fuels, one by one: what is not out of fuel with less is the same with more.
func TestMoreFuelDoesWhatLessDid(t *testing.T) {
	s := steps(114)
	for i := range 300 {
		p := s.wholeProg(2 + i%5)
		if i%3 == 0 {
			s.swappedNode(&p)
		}
		var all []impl.Result
		for fuel := range 40 {
			all = append(all, impl.Eval(p, fuel))
		}
		for less, r := range all {
			for _, more := range all[less:] {
				if r.Code != impl.EvFuel && toldResult(more) != toldResult(r) || !beginsWith(more.Out, r.Out) {
					t.Fatalf("%s is %s with fuel of %d, and %s with more", impl.Write(p), toldResult(r), less, toldResult(more))
				}
			}
		}
		if !slices.ContainsFunc(all, func(r impl.Result) bool { return r.Code == impl.EvFuel }) {
			t.Fatalf("%s needs no fuel", impl.Write(p))
		}
	}
}
