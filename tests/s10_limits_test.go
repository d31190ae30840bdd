package tests

import (
	"math"
	"slices"
	"strconv"
	"strings"
	"testing"

	"loop.example/g00323/impl"
)

// wantBegun holds how many nodes are begun: with so much fuel all is done, with one less it is not.
func wantBegun(t *testing.T, p impl.Prog, want int) {
	t.Helper()
	if _, begun := evalBy(p, fuelMost); begun != want {
		t.Errorf("%.300s begins %d nodes, not %d", impl.Write(p), begun, want)
	}
	holdFuel(t, p, want-2, want-1, want, want+1)
	if less, just := impl.Eval(p, want-1), impl.Eval(p, want); less.Code != impl.EvFuel || just.Code == impl.EvFuel {
		t.Errorf("%.300s is %s with fuel of %d, and %s with one less", impl.Write(p), toldResult(just), want, toldResult(less))
	}
}

func TestNodesThatAreBegun(t *testing.T) {
	for src, want := range map[string]int{"1": 1, "x": 1, "N": 1, "Q": 1, "fun x -> 1 + 1 + 1": 1, "(fun x -> x) 3": 4, "1 2": 3, "x 2": 2, "let x = 1 in x": 3, "let x = y in x": 2, "rec f x = x in 1": 2, "rec f x = x in f 2": 5, "if 1 then 2 else 3": 3, "if 0 then 2 else 3 + 3": 5, "if N then 2 else 3": 2, "1 + 2": 3, "1 < 2": 3, "N + 2": 2, "1 + N": 3, "C 1 N": 3, "C 1 2 3": 4, "put 1": 2, "put N": 2,
		// Patterns and alternatives are no es.
		"case 1 of { x -> x }": 3, "case C 1 (C 2 N) of { N -> 0; C a N -> 1; C a (C b c) -> b }": 7, "case 1 of { 2 -> 3; 4 -> 5 }": 2, "case 1 of { 0 -> 1; _ -> 2 }": 3,
		// Each time that it is begun, an e counts.
		"let f = fun x -> x + x in f 1 + f 2": 15, "rec f x = if x then f (x - 1) else 0 in f 3": 28} {
		wantBegun(t, evalProg(src), want)
	}
}

func TestFuelOfNoneAndLess(t *testing.T) {
	for _, src := range []string{"1", "fun x -> x", "x", "1 1", "put 4", "N", "Q", "rec f x = f x in f 1"} {
		for _, fuel := range []int{0, -1, -2, -fuelMost, math.MinInt, math.MinInt + 1} {
			if r, _ := holdEval(t, evalProg(src), fuel); toldResult(r) != "fuel" {
				t.Errorf("%s with fuel of %d is %s", src, fuel, toldResult(r))
			}
		}
	}
}

// countDown begins 7 nodes a number and 7 more.
func countDown(from int) impl.Prog {
	return evalProg("rec f x = if x then f (x - 1) else x in f " + strconv.Itoa(from))
}

// withPuts is a program of which each put about it begins one node more.
func withPuts(p impl.Prog, many int) impl.Prog {
	p.Main = chain(many, p.Main, func(n impl.Node) impl.Node { return node(impl.NdPut, n) })
	return p
}

func TestFuelThatIsMetAndPassed(t *testing.T) {
	for more := range 9 {
		wantBegun(t, withPuts(countDown(20), more), 147+more)
	}
	const from = 570 // 3997 nodes
	for more := range 7 {
		p := withPuts(countDown(from), more)
		for _, fuel := range []int{fuelMost, fuelMost + 1, fuelMost + more, 2 * fuelMost, math.MaxInt} {
			r, _ := holdEval(t, p, fuel)
			want := "fuel"
			if more <= 3 {
				want = "done 0" + []string{"", ": 0", ": 0 0", ": 0 0 0"}[more]
			}
			if got := meansText(r); got != want {
				t.Errorf("what begins %d nodes is %q with fuel of %d", 3997+more, got, fuel)
			}
		}
		if r, _ := holdEval(t, p, 3996+more); r.Code != impl.EvFuel {
			t.Errorf("what begins %d nodes is done with one less", 3997+more)
		}
	}
}

// What goes on without end tells more with more fuel, till there may be no more.
func TestFuelOfWhatHasNoEnd(t *testing.T) {
	p := evalProg("rec f x = f (put x + 1) in f 0")
	last := 0
	for _, fuel := range []int{0, 1, 10, 11, 12, 100, 1000, fuelMost - 1, fuelMost, fuelMost + 1, math.MaxInt} {
		r, _ := holdEval(t, p, fuel)
		if r.Code != impl.EvFuel || len(r.Out) < last || !slices.Equal(r.Out, fuelsUpTo(len(r.Out) - 1)[1:]) {
			t.Errorf("with fuel of %d %d numbers are told", fuel, len(r.Out))
		}
		last = len(r.Out)
	}
	if last != 666 { // six nodes a number, and four ahead of them
		t.Errorf("%d numbers are told", last)
	}
	holdFuel(t, p, fuelsUpTo(200)...)
}

// Calls within calls, as deep as fuel lets them be.
func TestMeaningOfDeepCalls(t *testing.T) {
	for src, want := range map[string]string{"rec f x = 1 + f x in f 1": "fuel", "rec f x = put (f x) in f 1": "fuel", "rec f x = C 1 (f x) in f 1": "fuel", "rec f x = let y = f x in y in f 1": "fuel", "rec f x = case f x of { y -> y } in f 1": "fuel", "rec f x = if f x then 1 else 2 in f 1": "fuel", "rec f x = f (f x) in f 1": "fuel"} {
		for _, fuel := range []int{50, fuelMost, math.MaxInt} {
			if r, _ := holdEval(t, evalProg(src), fuel); toldResult(r) != want {
				t.Errorf("%s is %s", src, toldResult(r))
			}
		}
	}
	r, _ := holdEval(t, evalProg("rec f n = if n then C n (f (n - 1)) else N in f 400"), fuelMost)
	if r.Code != impl.EvDone || len(valuesIn(&r.Value)) != 801 {
		t.Errorf("a long list is %.100s", toldResult(r))
	}
}

// doubled has a function d, of which `d n` is a value of 2^(n+1) - 1 values that are shared.
const doubled = "rec d n = if n then let t = d (n - 1) in B t t else L in "

// treesOf has a con R of that many trees.
func treesOf(many int, src string) impl.Prog {
	p, bad := impl.Parse(evalDatas + "data R = R" + strings.Repeat(" T", many) + "; " + src)
	if bad != -1 {
		panic("no program: " + src)
	}
	return p
}

func wantValues(t *testing.T, p impl.Prog, many int) {
	t.Helper()
	r, _ := holdEval(t, p, fuelMost)
	if many <= valueMost && (r.Code != impl.EvDone || len(valuesIn(&r.Value)) != many) || many > valueMost && toldResult(r) != "fuel" {
		t.Errorf("a value of %d values is %.100s", many, toldResult(r))
	}
}

func TestValuesThatAreMany(t *testing.T) {
	for n := range 14 {
		wantValues(t, evalProg(doubled+"d "+strconv.Itoa(n)), 2<<n-1)
	}
	// 1 and 2047 and 1023 and 511 and 255 and 127 and 31 and 3 make 3998.
	all := "R (d 10) (d 9) (d 8) (d 7) (d 6) (d 4) (d 1)"
	for more := range 6 {
		wantValues(t, treesOf(7+more, doubled+all+strings.Repeat(" L", more)), 3998+more)
	}
	for more := range 12 {
		wantValues(t, treesOf(7, doubled+"let r = "+all+" in P r ("+strings.Repeat("U (", more)+"L"+strings.Repeat(")", more)+")"), 4000+more)
		wantValues(t, treesOf(6, doubled+"let r = R (d 10) (d 9) (d 8) (d 7) (d 6) (d 4) in P r ("+strings.Repeat("U (", more)+"L"+strings.Repeat(")", more)+")"), 3997+more)
	}
	// Ints and functions are values, too.
	wantValues(t, treesOf(7, doubled+"P 1 ("+all+")"), 4000)
	wantValues(t, treesOf(7, doubled+"P (fun x -> d 10) ("+all+")"), 4000)
	wantValues(t, treesOf(7, doubled+"P (P 1 d) ("+all+")"), 4002)
	wantValues(t, treesOf(7, doubled+"C 1 (C 2 "+"("+all+"))"), 4002)
}

// Only how many values there are is held against a limit, not how many are within each other.
func TestValuesThatAreDeep(t *testing.T) {
	about := func(many int, name, within string) string {
		return strings.Repeat(name+" (", many) + within + strings.Repeat(")", many)
	}
	// Each h is 8 f, each of which is 19 S.
	for _, many := range []int{1, 2, 10, 13, 20} {
		p, bad := impl.Parse("data O a = N | S a; let f = fun x -> " + about(19, "S", "x") + " in let h = fun x -> " + about(8, "f", "x") + " in " + about(many, "h", "N"))
		if bad != -1 {
			t.Fatalf("no program: %d", bad)
		}
		r := impl.Eval(p, fuelMost)
		want := 19*8*many + 1
		if all, deep := insideOf(r.Value); r.Code != impl.EvDone || all != want || deep != want {
			t.Errorf("a value of %d within each other is of code %d, and has %d", want, r.Code, deep)
		}
	}
}

// More values than any number can count, and none of them is gone through.
func TestValuesWithoutNumber(t *testing.T) {
	quickly(t, "Eval", func() {
		for _, n := range []int{20, 30, 31, 32, 33, 61, 62, 63, 64, 65, 66, 100, 127, 128, 300} {
			d := doubled + "let t = d " + strconv.Itoa(n) + " in "
			for src, want := range map[string]string{"t": "fuel", "let q = put 5 in t": "fuel: 5", "P 1 t": "fuel", "P t 1": "fuel", "B t t": "fuel", "P (fun x -> t) t": "fuel",
				// At the end they count, and nowhere else.
				"7": "done 7", "fun x -> t": "done fun", "C (fun x -> t) N": "done (C fun N)", "case t of { L -> 0; B a b -> 1; U a -> 2 }": "done 1", "case t of { B (B (B (B a b) c) d) e -> put 3 }": "done 3: 3", "(fun x -> 4) t": "done 4"} {
				if got := meansText(impl.Eval(evalProg(d+src), fuelMost)); got != want {
					t.Errorf("%s with %d is %q", src, n, got)
				}
			}
		}
	})
}

// A case asks for the beginning of what is shared without end, and may go down to its leaves.
func TestCasesOfValuesThatAreShared(t *testing.T) {
	p := evalProg(doubled + "let t = d 200 in case t of { B x y -> 1; _ -> 0 }")
	p.Main.Kids[1].Kids[1].Kids[1].Kids[0] = chain(18, anyPat(), func(n impl.Node) impl.Node { return conPat("B", n, n) })
	quickly(t, "Eval", func() {
		if got := meansText(impl.Eval(p, fuelMost)); got != "done 1" {
			t.Errorf("a great pattern is told as %q", got)
		}
		if got := meansText(impl.Eval(evalProg(doubled+"rec f t = case t of { B a b -> f b; L -> 9; U a -> 8 } in f (d 200)"), fuelMost)); got != "done 9" {
			t.Errorf("the last leaf is told as %q", got)
		}
	})
}

// A fuel that is left does not help what is too large; a fuel that is not left counts ahead of it.
func TestFuelOfValuesThatAreTooMany(t *testing.T) {
	p := evalProg(doubled + "let q = put 1 in let t = d 12 in let q = put 2 in t")
	_, begun := evalBy(p, fuelMost)
	for _, fuel := range []int{0, 3, 4, 5, begun - 3, begun - 2, begun - 1, begun, begun + 1, fuelMost, math.MaxInt} {
		r, _ := holdEval(t, p, fuel)
		want := "fuel: 1"
		if fuel < 4 {
			want = "fuel"
		} else if fuel >= begun-1 {
			want = "fuel: 1 2"
		}
		if got := meansText(r); got != want {
			t.Errorf("with fuel of %d it is %q, not %q", fuel, got, want)
		}
	}
}

func wantStuckAtOnce(t *testing.T, p impl.Prog) {
	t.Helper()
	for _, fuel := range []int{0, -1, 1, 100, fuelMost, fuelMost + 1, math.MaxInt, math.MinInt} {
		if r, _ := holdEval(t, p, fuel); toldResult(r) != "stuck" {
			t.Errorf("%.300s with fuel of %d is %s", toldProg(p), fuel, toldResult(r))
		}
	}
}

func TestWhatIsNotTidyIsStuck(t *testing.T) {
	wantStuckAtOnce(t, impl.Prog{})
	for _, p := range wrongProgs() {
		wantStuckAtOnce(t, p)
		// Nothing of it is told, though it would come first.
		p.Main = aLet("x", node(impl.NdPut, aNum(1)), p.Main)
		wantStuckAtOnce(t, p)
		p.Main = aLet("x", aNum(1), p.Main)
		wantStuckAtOnce(t, p)
	}
	deep := func(many int) impl.Prog {
		return onlyMain(chain(many-1, aNum(1), func(n impl.Node) impl.Node { return node(impl.NdPut, n) }))
	}
	wantStuckAtOnce(t, deep(treeDeep+1))
	if r, _ := holdEval(t, deep(treeDeep), treeDeep); r.Code != impl.EvDone || len(r.Out) != treeDeep-1 {
		t.Errorf("what is as deep as it may be is %s", toldResult(r))
	}
	self := make([]impl.Node, 1)
	self[0] = node(impl.NdPut, aNum(1))
	self[0].Kids = self
	quickly(t, "Eval", func() {
		if r := impl.Eval(onlyMain(self[0]), fuelMost); toldResult(r) != "stuck" {
			t.Errorf("a tree within itself is %s", toldResult(r))
		}
	})
}

func TestDatasThatAreNotRightAreStuck(t *testing.T) {
	put := node(impl.NdPut, aNum(1))
	many := impl.Prog{Main: put}
	for i := range consMost + 1 {
		many.Datas = append(many.Datas, oneData("D"+letters(i), 0, oneCon("C"+letters(i))))
	}
	wantStuckAtOnce(t, many)
	if r, _ := holdEval(t, impl.Prog{Datas: many.Datas[1:], Main: put}, 2); meansText(r) != "done 1: 1" {
		t.Errorf("behind as many cons as there may be it is %s", toldResult(r))
	}
	for _, text := range []string{"data A = X | X;", "data A = X; data A = Y;", "data A = X; data B = X;", "data A = X B;", "data A = X (Int -> A -> Q);", "data A a = X A;", "data A = X (A Int);"} {
		for _, main := range []impl.Node{put, aNum(1), aCon("X"), aFun("x", aNum(1)), anApp(aNum(1), aNum(1))} {
			wantStuckAtOnce(t, impl.Prog{Datas: datasOf(text), Main: main})
			wantStuckAtOnce(t, impl.Prog{Datas: append(datasOf(evalDatas), datasOf(text)...), Main: main})
		}
	}
}

func addValue(lists, texts *pieces, v impl.Value) {
	addList(lists, v.Kids)
	texts.addText(v.S)
	for _, kid := range v.Kids {
		addValue(lists, texts, kid)
	}
}

func spoilValue(v impl.Value) {
	for i := range v.Kids {
		spoilValue(v.Kids[i])
	}
	for i := range v.Kids[:cap(v.Kids)] {
		v.Kids[:cap(v.Kids)][i] = impl.Value{Kind: 99, S: "gone"}
	}
}

// holdNewMemory holds that no program is written into, and that what is answered is new, each list of it by itself.
func holdNewMemory(t *testing.T, p impl.Prog, fuel int) impl.Result {
	t.Helper()
	p = withRoom(p)
	kept := toldWithRoom(p)
	r := impl.Eval(p, fuel)
	want := toldResult(r)
	var lists, texts pieces
	addProg(&lists, &texts, p)
	addList(&lists, r.Out)
	addValue(&lists, &texts, r.Value)
	text := impl.ValueText(r.Value)
	texts.addText(text)
	if lists.overlap() || texts.overlap() {
		t.Fatalf("Eval(%s): two lists or texts share memory", toldProg(p))
	}
	if text != valueTextBy(r.Value) {
		t.Fatalf("the text of %s is %q", toldValue(r.Value), text)
	}
	copied := impl.Result{Code: r.Code, Value: valueWithRoom(r.Value), Out: slices.Clone(r.Out)}
	spoilValue(r.Value)
	clear(r.Out[:cap(r.Out)])
	if toldWithRoom(p) != kept {
		t.Fatalf("%s was written into", kept)
	}
	if again := impl.Eval(p, fuel); toldResult(again) != want {
		t.Fatalf("asked again, Eval(%s) is %s, not %s", toldProg(p), toldResult(again), want)
	}
	return copied
}

func TestMeaningsAreNewMemory(t *testing.T) {
	s := steps(105)
	met := map[int]int{}
	for i := range 3000 {
		p := s.madeProg(1 + i%5)
		for left := s.below(3) - 1; left > 0; left-- {
			s.swappedNode(&p)
		}
		if i%7 == 0 {
			s.turned(&p)
		}
		met[holdNewMemory(t, p, 1+s.below(50)).Code]++
	}
	for code := impl.EvDone; code <= impl.EvStuck; code++ {
		if met[code] < 100 {
			t.Errorf("only %d programs end with %d", met[code], code)
		}
	}
	for src, want := range map[string]string{doubled + "d 3": "done (B (B (B L L) (B L L)) (B (B L L) (B L L)))", "let x = C 1 N in P x x": "done (P (C 1 N) (C 1 N))", "let x = N in let y = P x x in P y (P y x)": "done (P (P N N) (P (P N N) N))", "let x = put 3 in let y = put x in C y (C (put x) N)": "done (C 3 (C 3 N)): 3 3 3", "case C 1 (C 2 N) of { C x t -> P t t }": "done (P (C 2 N) (C 2 N))", "(fun x -> P x (fun y -> x)) N": "done (P N fun)", "fun x -> x": "done fun", "x": "stuck"} {
		if got := meansText(holdNewMemory(t, evalProg(src), fuelMost)); got != want {
			t.Errorf("%s means %q, not %q", src, got, want)
		}
	}
}
