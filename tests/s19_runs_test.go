package tests

import (
	"math"
	"slices"
	"testing"

	"loop.example/g00323/impl"
)

// countingVm tells a 7 every third step, and never ends.
func countingVm() impl.Vm {
	m, _ := impl.VmNew([]impl.Fun{aFunction(0, opsOf("num 7, put, zero 0, jump 0")...)}, 3, false)
	return m
}

func TestVmRunOfHowManySteps(t *testing.T) {
	m := countingVm()
	for _, n := range []int{math.MinInt, least, -60000, -2, -1, 0} {
		if got := impl.VmRun(m, n); !sameVm(got, m) {
			t.Errorf("behind %d steps it is %s", n, toldVm(got))
		}
	}
	for _, n := range []int{1, 2, 3, 4, 5, 6, 7, 8, 9, 100, 3999, stepsMost - 2, stepsMost - 1, stepsMost, stepsMost + 1, stepsMost + 2, 2 * stepsMost, 1 << 32, 1<<32 + 1, math.MaxInt} {
		got := impl.VmRun(m, n)
		done := min(n, stepsMost)
		// Of four steps the second one tells.
		if len(got.Out) != (done+2)/4 || got.Calls[0].Pc != done%4 || got.Code != impl.VmGo {
			t.Errorf("behind %d steps it is %s", n, toldVm(got))
		}
	}
	// A limit is of one run: there may be another one behind it.
	got := m
	for range 5 {
		got = impl.VmRun(got, math.MaxInt)
	}
	if len(got.Out) != 5*stepsMost/4 || !impl.VmOk(got) {
		t.Errorf("of five runs %d are told", len(got.Out))
	}
	if once := holdStep(t, m); !sameVm(once, impl.VmRun(m, 1)) {
		t.Error("a run by one is no step")
	}
}

// None of what is not right is run; of no step it is as it was.
func TestVmRunOfWhatIsNotRight(t *testing.T) {
	for _, turn := range []func(m *impl.Vm){
		func(m *impl.Vm) { m.Funs = nil }, func(m *impl.Vm) { m.Heap.Half++ }, func(m *impl.Vm) { m.Stack[0] = 0; m.Heap.Next = m.Heap.Base },
		func(m *impl.Vm) { m.Calls = nil }, func(m *impl.Vm) { m.Out[0] = least - 1 }, func(m *impl.Vm) { m.Code = 6 }, func(m *impl.Vm) { m.Code = -1 }, func(m *impl.Vm) { *m = impl.Vm{} },
	} {
		m := someVm(true)
		turn(&m)
		wantVmOk(t, "turned", m, false)
		for _, n := range []int{math.MinInt, -1, 0} {
			if got := impl.VmRun(m, n); !sameVm(got, m) {
				t.Errorf("%s is %s behind %d steps", toldVm(m), toldVm(got), n)
			}
		}
		for _, n := range []int{1, 2, stepsMost, math.MaxInt} {
			if got := impl.VmRun(m, n); !sameVm(got, impl.Vm{}) {
				t.Errorf("%s is %s behind %d steps", toldVm(m), toldVm(got), n)
			}
		}
	}
}

// A run of a run is a run by both numbers together.
func TestVmRunOfARun(t *testing.T) {
	s := steps(193)
	for _, src := range []string{"rec f n = if n then put n + f (n - 1) else 0 in f 9", "rec f n = C n (f n) in f 1", "let l = C 1 (C 2 E) in rec s l = case l of { E -> 0; C h t -> put h + s t } in s l", "5"} {
		for _, each := range []bool{false, true} {
			m, _ := impl.VmNew(funsOf(t, closeProg(src)), 30, each)
			for range 200 {
				a, b := s.below(120), s.below(120)
				if one, both := impl.VmRun(m, a+b), impl.VmRun(impl.VmRun(m, a), b); !sameVm(one, both) {
					t.Fatalf("%s by %d and %d is %s, not %s", src, a, b, toldVm(both), toldVm(one))
				}
			}
		}
	}
}

// funsOf is what is made of a program that is right.
func funsOf(t *testing.T, p impl.Prog) []impl.Fun {
	t.Helper()
	blocks, ok := impl.Close(p)
	if !ok {
		t.Fatalf("%s is not closed", impl.Write(p))
	}
	funs, ok := impl.Gen(blocks)
	if !ok || !impl.Verify(funs) {
		t.Fatalf("%s is not made", impl.Write(p))
	}
	return funs
}

func TestVmByHand(t *testing.T) {
	// 0: clos 1 0, num 4, call, ret. 1: local 0, num 1, add, put, ret.
	m, ok := impl.VmNew(funsOf(t, closeProg("(fun x -> put (x + 1)) 4")), 10, false)
	if !ok {
		t.Fatal("there is none")
	}
	stacks := [][]int{{1, 1}, {1, 1, 0}, {1, 1, 0, 9}, {1, 1, 0, 9}, {1, 1, 0, 9, 9}, {1, 1, 0, 9, 9, 3}, {1, 1, 0, 9, 11}, {1, 1, 0, 9, 11}, {1, 1, 11}, {11}}
	pcs := [][]int{{0}, {1}, {2}, {3, 0}, {3, 1}, {3, 2}, {3, 3}, {3, 4}, {3}, nil}
	for i, now := range holdSteps(t, m, 100) {
		code, out, next := impl.VmGo, []int(nil), 0
		if i > 0 {
			next = 1
		}
		if i >= 7 {
			out = []int{5}
		}
		if i == 9 {
			code = impl.VmHalt
		}
		var at []int
		for k, c := range now.Calls {
			at = append(at, c.Pc)
			if c.Fun != k || c.Base != 1+2*k {
				t.Errorf("behind %d steps a call is %v", i, c)
			}
		}
		if !slices.Equal(now.Stack, stacks[i]) || !slices.Equal(at, pcs[i]) || now.Code != code || !slices.Equal(now.Out, out) || now.Heap.Next != next {
			t.Errorf("behind %d steps it is %s", i, toldVm(now))
		}
	}
}

// wordMeaning is what a word stands for.
func wordMeaning(datas []impl.Data, h impl.Heap, w int) impl.Value {
	if w%2 != 0 {
		return intValue(halfDown(w))
	}
	fun, tag, kids, _ := impl.BlockAt(h, w/2)
	if fun {
		return funValue()
	}
	v := conValue(seatsOf(datas)[tag].name)
	for _, kid := range kids {
		v.Kids = append(v.Kids, wordMeaning(datas, h, kid))
	}
	return v
}

// heldBeside is how many words are left in a half of that length beside what is held.
func heldBeside(m impl.Vm, half int) int {
	return half - heldBy(&holder{heap: m.Heap, roots: m.Stack})
}

// A great run is one in the greatest heap, which is never moved, told step by step.
func greatRun(t *testing.T, funs []impl.Fun, steps int) []impl.Vm {
	t.Helper()
	m, ok := impl.VmNew(funs, halfMost, false)
	if !ok {
		t.Fatalf("there is none of %.500s", funsText(funs))
	}
	all := []impl.Vm{m}
	for range steps {
		if m = impl.VmStep(m); m.Heap.Base > 0 || m.Code == impl.VmRoom {
			break
		}
		all = append(all, m)
		if m.Code != impl.VmGo {
			break
		}
	}
	return all
}

// holdSmall holds a run in a small heap against the great one, step by step: it is seen as that is, till there is no room; and there is none only where what is held, with the block, is more than the half.
func holdSmall(t *testing.T, funs []impl.Fun, great []impl.Vm, half int, each bool) int {
	t.Helper()
	m, _ := impl.VmNew(funs, half, each)
	for i, want := range great {
		if m.Code != want.Code || !slices.Equal(m.Calls, want.Calls) || !slices.Equal(m.Out, want.Out) || impl.Shape(m.Heap, m.Stack) != impl.Shape(want.Heap, want.Stack) {
			t.Fatalf("with a half of %d, each %v, behind %d steps of %.500s it is %s, not %s", half, each, i, funsText(funs), toldVm(m), toldVm(want))
		}
		if m.Code != impl.VmGo {
			break
		}
		o := m.Funs[m.Calls[len(m.Calls)-1].Fun].List[m.Calls[len(m.Calls)-1].Pc]
		isBlock := codeName(o.Code) == "clos" || codeName(o.Code) == "con"
		lacks := isBlock && heldBeside(want, half) < 1+o.M
		next := impl.VmStep(m)
		if (next.Code == impl.VmRoom) != (lacks && len(m.Stack) < stackMost) {
			t.Fatalf("with a half of %d, each %v, behind %d steps of %.500s %d words are left and %s is %s", half, each, i, funsText(funs), heldBeside(want, half), impl.OpText(o), toldVm(next))
		}
		if m = next; m.Code == impl.VmRoom {
			break
		}
	}
	return m.Code
}

// holdProgram holds what is made of a program against what the program means, in heaps of some halves.
func holdProgram(t *testing.T, p impl.Prog, steps int, halves ...int) map[int]int {
	t.Helper()
	funs := funsOf(t, p)
	great := greatRun(t, funs, steps)
	last := great[len(great)-1]
	means := impl.Eval(p, fuelMost)
	isWhole := impl.Covered(p)
	if last.Code == impl.VmFault || isWhole && last.Code == impl.VmFail {
		t.Fatalf("%s is of code %d", impl.Write(p), last.Code)
	}
	if !beginsWith(last.Out, means.Out) && !beginsWith(means.Out, last.Out) {
		t.Fatalf("%s tells %v, not %v", impl.Write(p), last.Out, means.Out)
	}
	if last.Code == impl.VmHalt && means.Code != impl.EvFuel {
		got := impl.Result{Value: wordMeaning(p.Datas, last.Heap, last.Stack[0]), Out: last.Out}
		if len(last.Stack) != 1 || meansText(got) != meansText(means) {
			t.Fatalf("%s is %s, not %s", impl.Write(p), meansText(got), meansText(means))
		}
	}
	if last.Code == impl.VmFail && means.Code == impl.EvDone {
		t.Fatalf("%s fails, and means %s", impl.Write(p), meansText(means))
	}
	met := map[int]int{last.Code: 1}
	for _, half := range halves {
		for _, each := range []bool{false, true} {
			met[holdSmall(t, funs, great, half, each)]++
		}
	}
	return met
}

func TestVmOfTypedPrograms(t *testing.T) {
	for _, c := range typedPrograms() {
		p := evalProg(c[1])
		great := greatRun(t, funsOf(t, p), 4000)
		last := great[len(great)-1]
		if text := "fuel"; c[2] == text {
			if last.Code == impl.VmHalt {
				t.Errorf("%s has halted", c[1])
			}
		} else if got := (impl.Result{Value: wordMeaning(p.Datas, last.Heap, last.Stack[0]), Out: last.Out}); last.Code != impl.VmHalt || meansText(got) != c[2] {
			t.Errorf("%s is %s of code %d, not %s", c[1], meansText(got), last.Code, c[2])
		}
		holdProgram(t, p, 600, 1, 2, 3, 4, 5, 7, 10, 14, 20, 30, 50, 100)
	}
}

func TestVmOfMadePrograms(t *testing.T) {
	s := steps(194)
	met := map[int]int{}
	for i := range 800 {
		p := s.madeProg(1 + i%7)
		if i%3 > 0 {
			p = s.wholeProg(1 + i%7)
		}
		blocks, ok := impl.Close(p)
		if !ok {
			continue
		}
		if funs, ok := impl.Gen(blocks); !ok || !impl.Verify(funs) {
			continue
		}
		for code, many := range holdProgram(t, p, 250, 1+s.below(6), 3+s.below(20), 10+s.below(60)) {
			met[code] += many
		}
	}
	if met[impl.VmHalt] < 1500 || met[impl.VmRoom] < 800 || met[impl.VmFail] < 100 || met[impl.VmFault] > 0 {
		t.Errorf("the codes are %v", met)
	}
}

// The second telling does the same, whole programs long.
func TestStepsOfPrograms(t *testing.T) {
	s := steps(195)
	for i := range 60 {
		p := s.wholeProg(2 + i%5)
		blocks, ok := impl.Close(p)
		if !ok {
			continue
		}
		if funs, ok := impl.Gen(blocks); ok && impl.Verify(funs) {
			m, _ := impl.VmNew(funs, 2+s.below(40), i%2 == 0)
			holdSteps(t, m, 60)
		}
	}
}

// Too many calls, and too many words.
func TestVmOfWhatIsTooDeep(t *testing.T) {
	// Each call of f holds the n, the function itself, and the argument.
	for _, c := range []struct {
		src          string
		calls, words int
	}{
		{"rec f n = f (n + 1) in f 0", 120, 0},
		{"rec f n = 1 + f (n + 1) in f 0", 120, 0},
		{"rec f n = C 1 (f n) in f 0", 120, 0},
		{"rec f n = 1 + (1 + (1 + f n)) in f 0", 0, 600},
		{"rec f n = 1 + (2 + (3 + (4 + (5 + (6 + (7 + f n)))))) in f 0", 0, 600},
	} {
		for _, each := range []bool{false, true} {
			m, _ := impl.VmNew(funsOf(t, closeProg(c.src)), 20, each)
			m = impl.VmRun(m, stepsMost)
			if m.Code != impl.VmDeep || c.calls > 0 && len(m.Calls) != c.calls || c.words > 0 && len(m.Stack) != c.words || !impl.VmOk(m) {
				t.Errorf("%s: %d calls and %d words, %s", c.src, len(m.Calls), len(m.Stack), toldVm(m))
			}
			holdStep(t, m)
			m.Code = impl.VmGo
			wantLeft(t, m, impl.VmDeep)
		}
	}
	// As many calls as there may be, and one more: function 0 is one of them.
	for n, want := range map[string]int{"117": impl.VmHalt, "118": impl.VmHalt, "119": impl.VmDeep, "120": impl.VmDeep} {
		m, _ := impl.VmNew(funsOf(t, closeProg("rec f n = if n then f (n - 1) else 7 in f "+n)), 20, false)
		if m = impl.VmRun(m, stepsMost); m.Code != want || m.Code == impl.VmHalt && !slices.Equal(m.Stack, []int{15}) {
			t.Errorf("of %s it is %s", n, toldVm(m))
		}
	}
}

func TestVmOfWhatFails(t *testing.T) {
	m, _ := impl.VmNew(funsOf(t, closeProg("let x = put 4 in case S (put 3) of { N -> put 2 }")), 20, false)
	if m = impl.VmRun(m, stepsMost); m.Code != impl.VmFail || !slices.Equal(m.Out, []int{4, 3}) || len(m.Calls) != 1 || codeName(m.Funs[0].List[m.Calls[0].Pc].Code) != "fail" {
		t.Errorf("it is %s", toldVm(m))
	}
	m.Code = impl.VmGo
	wantLeft(t, m, impl.VmFail)
}
