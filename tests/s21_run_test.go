package tests

import (
	"math"
	"slices"
	"testing"

	"loop.example/g00323/impl"
)

// manyEdges are numbers at both ends of what a half and of what steps may be.
func manyEdges() []int {
	return []int{math.MinInt, least - 1, least, -halfMost, -1, 0, 1, 2, halfMost - 1, halfMost, halfMost + 1, stepsMost - 1, stepsMost, stepsMost + 1, greatest, greatest + 1, 1<<32 + 1, math.MaxInt}
}

// Where a text is not built, its code is told, whatever the half and the steps are; where it is, and there is no machine, BdGen.
func TestRunOfEachCode(t *testing.T) {
	for code, parts := range faultyParts() {
		for _, part := range parts[:2] {
			src := buildDatas() + part
			w := workpieceOf(src)
			for i, half := range manyEdges() {
				for k, many := range manyEdges() {
					want := code
					if code == impl.BdDone && (half < 1 || half > halfMost) {
						want = impl.BdGen
					}
					m, got := holdRunOf(t, w, src, half, (i+k)%2 == 0, many)
					if got != want || want != impl.BdDone && !sameVm(m, impl.Vm{}) {
						t.Fatalf("RunOf of %s in a half of %d by %d steps is %d and %s", ending(src), half, many, got, toldVm(m))
					}
				}
			}
		}
	}
}

// wantRunOf wants a code of the machine, and what it has told.
func wantRunOf(t *testing.T, src string, half, many, want int, out ...int) impl.Vm {
	t.Helper()
	w := workpieceOf(src)
	both := [2]impl.Vm{}
	for i, each := range []bool{false, true} {
		m, code := holdRunOf(t, w, src, half, each, many)
		if code != impl.BdDone || m.Code != want || !slices.Equal(m.Out, out) || m.Each != each || !impl.VmOk(m) {
			t.Fatalf("RunOf of %s in a half of %d, each %v, by %d steps is %d and %s, not of code %d", ending(src), half, each, many, code, toldVm(m), want)
		}
		both[i] = m
	}
	if impl.Shape(both[0].Heap, both[0].Stack) != impl.Shape(both[1].Heap, both[1].Stack) || !slices.Equal(both[0].Calls, both[1].Calls) {
		t.Fatalf("RunOf of %s in a half of %d by %d steps is %s, and %s", ending(src), half, many, toldVm(both[0]), toldVm(both[1]))
	}
	return both[0]
}

// There is a machine with any half that may be; in the least one there is room for one word.
func TestRunOfHalves(t *testing.T) {
	for _, half := range []int{1, 2, 3, 29, halfMost - 1, halfMost} {
		if m := wantRunOf(t, "1", half, 5, impl.VmHalt); !slices.Equal(m.Stack, []int{3}) || m.Heap.Half != half || len(m.Heap.Words) != 2*half {
			t.Errorf("in a half of %d it is %s", half, toldVm(m))
		}
		// A function that keeps nothing is one word, and one alone is held.
		wantRunOf(t, "put ((fun x -> x) 3) + put ((fun x -> x) 4)", half, 100, impl.VmHalt, 3, 4)
	}
	for src, need := range map[string]int{
		"N": 1, "S N": 3, "S (S N)": 5, "C 1 N": 4, "C 1 (C 2 N)": 7, "let a = N in C N a": 5, "fun x -> x": 1, "let y = 2 in fun x -> x + y": 2, "let f = fun x -> x in f f f 1": 1, "case S 1 of { S x -> x; Z -> 0 }": 2, "let a = case C 1 N of { N -> N; C _ t -> t } in C 1 a": 4,
	} {
		for half := 1; half <= need+2; half++ {
			want := impl.VmHalt
			if half < need {
				want = impl.VmRoom
			}
			wantRunOf(t, "data L a = N | C a (L a); data S a = Z | S a; "+src, half, stepsMost, want)
		}
	}
}

func TestRunOfSteps(t *testing.T) {
	for many, want := range map[int]int{math.MinInt: impl.VmGo, -2: impl.VmGo, -1: impl.VmGo, 0: impl.VmGo, 1: impl.VmGo, 2: impl.VmHalt, 3: impl.VmHalt, stepsMost: impl.VmHalt, stepsMost + 1: impl.VmHalt, math.MaxInt: impl.VmHalt} {
		m := wantRunOf(t, "7", 1, many, want)
		stack := [][]int{{1, 1}, {1, 1, 15}, {15}}[max(0, min(many, 2))]
		if !slices.Equal(m.Stack, stack) || len(m.Calls) != 1-want {
			t.Errorf("by %d steps it is %s", many, toldVm(m))
		}
	}
	// As many as are needed, and one fewer.
	for src, need := range map[string]int{"1": 2, "1 + 2": 4, "(fun x -> x) 1": 6, "let x = 1 in x": 4, "if 1 then 2 else 3": 5, "if 0 then 2 else 3": 4, "case 1 of { 1 -> 2; _ -> 3 }": 7, "case 2 of { 1 -> 2; _ -> 3 }": 6, "rec f n = if n then f (n - 1) else 0 in f 0": 10, "rec f n = if n then f (n - 1) else 0 in f 1": 19} {
		for many := range need {
			wantRunOf(t, src, 20, many, impl.VmGo)
		}
		for _, many := range []int{need, need + 1, stepsMost, math.MaxInt} {
			wantRunOf(t, src, 20, many, impl.VmHalt)
		}
	}
	// No run has more than MaxSteps; calls that double never end within them.
	const long = "rec f n = if n then f (n - 1) + f (n - 1) else put 1 in f 40"
	m, _ := impl.RunOf(long, 3, false, stepsMost)
	wantRunOf(t, long, 3, stepsMost, impl.VmGo, slices.Repeat([]int{1}, len(m.Out))...)
	// There are 15 steps of each call that calls, and 5 of each other one.
	if len(m.Out) < 2900 || len(m.Out) > stepsMost/20 {
		t.Errorf("%d are told", len(m.Out))
	}
	for _, many := range []int{stepsMost + 1, 2 * stepsMost, math.MaxInt} {
		if got, code := impl.RunOf(long, 3, false, many); code != impl.BdDone || !sameVm(got, m) {
			t.Errorf("by %d steps it is %d and %s", many, code, toldVm(got))
		}
	}
	if got, _ := impl.RunOf(long, 3, false, stepsMost-1); sameVm(got, m) || !sameVm(impl.VmStep(got), m) {
		t.Errorf("by one step fewer it is %s", toldVm(got))
	}
}

// What was told is told, also where there is no room, or it is too deep.
func TestRunOfWhatDoesNotHalt(t *testing.T) {
	const list = "data L a = N | C a (L a); "
	down := []int{9, 8, 7, 6, 5, 4, 3, 2, 1}
	const falls = "rec f n = if n then C (put n) (f (n - 1)) else N in f 9"
	wantRunOf(t, list+falls, 30, stepsMost, impl.VmHalt, down...)
	wantRunOf(t, list+falls, 29, stepsMost, impl.VmHalt, down...)
	wantRunOf(t, list+falls, 28, stepsMost, impl.VmRoom, down...)
	wantRunOf(t, list+falls, 2, stepsMost, impl.VmRoom, down...)
	wantRunOf(t, list+"let a = C 1 (C 2 (C 3 N)) in put 5", 9, stepsMost, impl.VmRoom)
	wantRunOf(t, list+"let a = put 5 in let b = C 1 N in 1", 3, stepsMost, impl.VmRoom, 5)
	wantRunOf(t, "rec f n = f (n + put 1) in f 0", 3, stepsMost, impl.VmDeep, slices.Repeat([]int{1}, callsMost-1)...)
	wantRunOf(t, "rec f n = put n + f (n + 1) in let a = put 7 in f 3", 3, 7, impl.VmGo, 7)
	wantRunOf(t, "rec f n = put n + f (n + 1) in let a = put 7 in f 3", 3, 8, impl.VmGo, 7, 3)
	wantRunOf(t, "1 + (2 + (3 + (4 + (5 + (6 + (7 + 8))))))", 3, 8, impl.VmGo)
}

// needed is how many steps there are till a machine goes on no more, or as many as that.
func needed(m impl.Vm, most int) int {
	many := 0
	for ; m.Code == impl.VmGo && many < most; many++ {
		m = impl.VmStep(m)
	}
	return many
}

// holdMeaning holds a run against what the program means: halted, all that it tells and its value, and otherwise a beginning.
func holdMeaning(t *testing.T, src string, datas []impl.Data, means impl.Result, m impl.Vm) {
	t.Helper()
	if m.Code == impl.VmFault || m.Code == impl.VmFail || !impl.VmOk(m) {
		t.Fatalf("RunOf of %s is %s", ending(src), toldVm(m))
	}
	if !beginsWith(m.Out, means.Out) && !beginsWith(means.Out, m.Out) {
		t.Fatalf("RunOf of %s tells %v, and it means %s", ending(src), m.Out, meansText(means))
	}
	if m.Code != impl.VmHalt || means.Code == impl.EvFuel {
		return
	}
	v, ok := impl.Outcome(datas, m)
	if got := meansText(impl.Result{Value: v, Out: m.Out}); !ok || means.Code != impl.EvDone || got != meansText(means) {
		t.Fatalf("RunOf of %s is %s, and it means %s", ending(src), got, meansText(means))
	}
}

// holdRunsOf runs a text in some halves, moved often and seldom, with fewer steps than are needed, and with more; it tells how often each code was met.
func holdRunsOf(t *testing.T, src string, halves ...int) map[int]int {
	t.Helper()
	met := map[int]int{}
	w := workpieceOf(src)
	if w.code() != impl.BdDone {
		met[-w.code()]++
		return met
	}
	means := impl.Eval(w.prog, fuelMost)
	great, _ := impl.VmNew(w.funs, halfMost, false)
	for _, half := range halves {
		for _, each := range []bool{false, true} {
			begun := newVmBy(w.funs, half, each)
			all := needed(begun, 100)
			for _, many := range []int{0, all / 3, all - 1, all, all + 1, stepsMost} {
				m, _ := impl.RunOf(src, half, each, many)
				if many < stepsMost {
					holdRunOf(t, w, src, half, each, many)
				} else if !sameVm(m, impl.VmRun(begun, many)) {
					t.Fatalf("RunOf of %s in a half of %d, each %v, is %s at last", ending(src), half, each, toldVm(m))
				}
				holdMeaning(t, src, w.prog.Datas, means, m)
				// Till there is no room, it is seen as in the greatest heap.
				if seen := impl.VmRun(great, many); m.Code != impl.VmRoom && (seen.Code != m.Code || impl.Shape(seen.Heap, seen.Stack) != impl.Shape(m.Heap, m.Stack) || !slices.Equal(seen.Calls, m.Calls) || !slices.Equal(seen.Out, m.Out)) {
					t.Fatalf("RunOf of %s in a half of %d, each %v, by %d steps is %s, not %s", ending(src), half, each, many, toldVm(m), toldVm(seen))
				}
				met[m.Code]++
			}
		}
	}
	return met
}

func TestRunsOfTypedPrograms(t *testing.T) {
	for _, c := range typedPrograms() {
		met := holdRunsOf(t, evalDatas+c[1], 1, 2, 3, 5, 8, 13, 20, 40, 100, halfMost)
		if c[2] != "fuel" && met[impl.VmHalt] < 6 {
			t.Errorf("of %s the codes are %v", c[1], met)
		}
		m, _ := impl.RunOf(evalDatas+c[1], 300, false, stepsMost)
		if p := evalProg(c[1]); c[2] != "fuel" {
			v, _ := impl.Outcome(p.Datas, m)
			if got := meansText(impl.Result{Value: v, Out: m.Out}); got != c[2] {
				t.Errorf("%s is %q, not %q", c[1], got, c[2])
			}
		}
	}
}

func TestRunsOfMadePrograms(t *testing.T) {
	s := steps(212)
	met := map[int]int{}
	for i := range 150 {
		p := s.wholeProg(1 + i%7)
		if i%5 == 0 {
			p = s.madeProg(1 + i%7)
		}
		for code, many := range holdRunsOf(t, impl.Write(p), 1+s.below(6), 3+s.below(20), 10+s.below(60)) {
			met[code] += many
		}
	}
	if met[impl.VmGo] < 1000 || met[impl.VmHalt] < 1000 || met[impl.VmRoom] < 200 || met[-impl.BdMiss] < 5 || met[impl.VmFail]+met[impl.VmFault] > 0 {
		t.Errorf("the codes are %v", met)
	}
}

// What was built holds of small heaps what it does of the great one, step by step, and there is no room only where what is held leaves too little.
func TestSmallHeapsOfWhatIsBuilt(t *testing.T) {
	s := steps(213)
	met := map[int]int{}
	for i := range 200 {
		src := impl.Write(s.wholeProg(1 + i%7))
		funs, code := impl.Build(src)
		if code != impl.BdDone {
			continue
		}
		great := greatRun(t, funs, 200)
		for _, half := range []int{1 + s.below(5), 4 + s.below(20), 100} {
			for _, each := range []bool{false, true} {
				met[holdSmall(t, funs, great, half, each)]++
			}
		}
	}
	if met[impl.VmHalt] < 600 || met[impl.VmRoom] < 100 || met[impl.VmFail]+met[impl.VmFault] > 0 {
		t.Errorf("the codes are %v", met)
	}
}
