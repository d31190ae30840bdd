package tests

import (
	"math"
	"slices"
	"testing"

	"loop.example/g00323/impl"
)

// holdOutcome holds Outcome against its second telling.
func holdOutcome(t *testing.T, list []impl.Data, m impl.Vm) bool {
	t.Helper()
	want, is := impl.Value{}, false
	if m.Code == impl.VmHalt && len(m.Stack) == 1 {
		want, is = backBy(list, m.Heap)(m.Stack[0])
	}
	got, ok := impl.Outcome(list, m)
	if ok != is || !sameValue(got, want) {
		t.Fatalf("Outcome of %s is %.300s and %v, not %.300s and %v", toldVm(m), toldValue(got), ok, toldValue(want), is)
	}
	return ok
}

// wantOutcome wants a text, or, where it is empty, that none comes out.
func wantOutcome(t *testing.T, list []impl.Data, m impl.Vm, want string) {
	t.Helper()
	holdOutcome(t, list, m)
	v, ok := impl.Outcome(list, m)
	if ok != (want != "") || ok && impl.ValueText(v) != want || !ok && !sameValue(v, impl.Value{}) {
		t.Errorf("Outcome of %s is %.300s and %v, not %q", toldVm(m), toldValue(v), ok, want)
	}
}

// haltedVm has halted with these words on the stack; its heap is that of heapOfValues.
func haltedVm(second bool, from int, words ...int) impl.Vm {
	return impl.Vm{Funs: []impl.Fun{aFunction(0, opsOf("num 1, ret")...)}, Heap: heapOfValues(second, from), Stack: words, Out: []int{4, -4}, Code: impl.VmHalt}
}

func TestOutcomeByHand(t *testing.T) {
	movedBoth(40, func(second bool, from int) {
		texts := map[int]string{intOf(6): "6", intOf(least): "-1073741824", refOf(from): "E", refOf(from + 1): "(C 3 E)", refOf(from + 4): "fun", refOf(from + 5): "fun", refOf(from + 10): "(T -1 (C 3 E) fun)", refOf(from + 14): "(P (C 3 E) (C 3 E))", refOf(from + 38): "N", refOf(from + 2): "", refOf(from + 39): "", refOf(40 - from): "", refOf(-1): "", intOf(greatest + 1): "1073741824"}
		for w, want := range texts {
			m := haltedVm(second, from, w)
			wantOutcome(t, backDatas(), m, want)
			wantOutcome(t, backDatas(), haltedVm(second, from), "")
			for v := range texts {
				wantOutcome(t, backDatas(), haltedVm(second, from, w, v), "")
				wantOutcome(t, backDatas(), haltedVm(second, from, w, v, w), "")
			}
			for _, code := range []int{impl.VmGo, impl.VmRoom, impl.VmDeep, impl.VmFail, impl.VmFault, -1, 6, 7, 257, math.MinInt, math.MaxInt} {
				m.Code = code
				wantOutcome(t, backDatas(), m, "")
			}
		}
	})
}

// Without datas no con comes out; of other ones another con does.
func TestOutcomeOfDatas(t *testing.T) {
	movedBoth(40, func(second bool, from int) {
		m := haltedVm(second, from, refOf(from+1))
		for _, list := range [][]impl.Data{nil, {{}}, datasOf("data A = A | B Int;"), datasOf("data A = A; data B = B Int Int Int;")} {
			wantOutcome(t, list, m, "")
		}
		wantOutcome(t, datasOf("data A = A; data B = B Int Int;"), m, "(B 3 A)")
		for _, list := range [][]impl.Data{nil, {{}}} {
			wantOutcome(t, list, haltedVm(second, from, refOf(from+4)), "fun")
			wantOutcome(t, list, haltedVm(second, from, intOf(-4)), "-4")
		}
	})
}

// Of a heap that is not right nothing comes out.
func TestOutcomeOfWrongHeaps(t *testing.T) {
	movedBoth(40, func(second bool, from int) {
		for _, h := range slices.Concat(wrongHeaps(), turnedHeaps(second, from)) {
			for _, w := range []int{intOf(0), intOf(3), refOf(from), refOf(from + 1), refOf(0)} {
				m := haltedVm(second, from, w)
				m.Heap = h
				wantOutcome(t, backDatas(), m, "")
			}
		}
	})
	wantOutcome(t, backDatas(), impl.Vm{}, "")
	wantOutcome(t, backDatas(), impl.Vm{Code: impl.VmHalt}, "")
	wantOutcome(t, backDatas(), impl.Vm{Code: impl.VmHalt, Stack: []int{1}}, "")
	// All else of a Vm is not asked, right or not.
	wantOutcome(t, backDatas(), impl.Vm{Code: impl.VmHalt, Stack: []int{7}, Heap: emptyHeap(1, true)}, "3")
	for _, turn := range []func(m *impl.Vm){
		func(m *impl.Vm) { m.Funs = nil }, func(m *impl.Vm) { m.Funs[0].Free = -1 }, func(m *impl.Vm) { m.Calls = []impl.Call{{Fun: 9, Pc: -1, Base: 7}} },
		func(m *impl.Vm) { m.Calls = make([]impl.Call, callsMost+1) }, func(m *impl.Vm) { m.Out = []int{greatest + 1} }, func(m *impl.Vm) { m.Each = true },
	} {
		m := haltedVm(true, 40, refOf(41))
		turn(&m)
		wantOutcome(t, backDatas(), m, "(C 3 E)")
	}
}

// What is too great, or too deep, does not come out of a machine either.
func TestOutcomeOfLimits(t *testing.T) {
	for many := 3998; many <= 4002; many++ {
		z := shares{t, emptyHeap(halfMost, many%2 == 0), map[int]int{}}
		m := impl.Vm{Code: impl.VmHalt, Stack: []int{z.word(many)}}
		m.Heap = z.heap
		if holdOutcome(t, backDatas(), m) != (many <= valueMost) {
			t.Errorf("Outcome of %d values is %v", many, many > valueMost)
		}
	}
	for many := 198; many <= 201; many++ {
		h, w := towerOf(true, halfMost, many, conBlock(tagN), func(below int) aBlock { return conBlock(tagS, below) })
		if holdOutcome(t, backDatas(), impl.Vm{Code: impl.VmHalt, Heap: h, Stack: []int{w}}) != (many < tyMost) {
			t.Errorf("Outcome of %d storeys is %v", many, many >= tyMost)
		}
	}
	h, _ := heapOf(3, false, conBlock(tagS, refOf(0)))
	wantOutcome(t, backDatas(), impl.Vm{Code: impl.VmHalt, Heap: h, Stack: []int{0}}, "")
}

// holdRuns runs what is made of a program in some halves: it comes out what the program means, once it has halted, and nothing ahead of that.
func holdRuns(t *testing.T, p impl.Prog, halves ...int) (halted, not int) {
	t.Helper()
	blocks, ok := impl.Close(p)
	if !ok {
		return 0, 0
	}
	funs, ok := impl.Gen(blocks)
	if !ok || !impl.Verify(funs) {
		return 0, 0
	}
	means := impl.Eval(p, fuelMost)
	for i, half := range halves {
		m, ok := impl.VmNew(funs, half, i%2 == 0)
		if !ok {
			t.Fatalf("there is no machine of %s", impl.Write(p))
		}
		for _, steps := range []int{1, 5, 30, stepsMost} {
			holdOutcome(t, p.Datas, m)
			m = impl.VmRun(m, steps)
		}
		if m.Code != impl.VmHalt {
			wantOutcome(t, p.Datas, m, "")
			not++
			continue
		}
		halted++
		if means.Code != impl.EvFuel {
			v, ok := impl.Outcome(p.Datas, m)
			if !ok || means.Code != impl.EvDone || !sameValue(v, means.Value) || !slices.Equal(m.Out, means.Out) {
				t.Fatalf("of %s there comes out %s and %v, not %s", impl.Write(p), toldValue(v), ok, toldResult(means))
			}
		}
		holdOutcome(t, p.Datas, m)
	}
	return halted, not
}

func TestOutcomeOfPrograms(t *testing.T) {
	for _, c := range typedPrograms() {
		holdRuns(t, evalProg(c[1]), 1, 2, 3, 5, 8, 13, 20, 40, 100, 101, 3000)
	}
	for src, want := range map[string]string{
		"5": "5", "0 - 7": "-7", "fun x -> x": "fun", "N": "N", "C 1 (C 2 N)": "(C 1 (C 2 N))", "let x = C 1 N in P x (fun y -> x)": "(P (C 1 N) fun)", "(fun x -> x + 1) 4": "5",
		"rec f n = if n then C n (f (n - 1)) else N in f 4": "(C 4 (C 3 (C 2 (C 1 N))))", doubled + "d 2": "(B (B L L) (B L L))", "1073741823 + 1": "-1073741824",
	} {
		p := evalProg(src)
		m, ok := impl.VmNew(funsOf(t, p), 60, true)
		if !ok {
			t.Fatalf("there is no machine of %s", src)
		}
		wantOutcome(t, p.Datas, m, "")
		wantOutcome(t, p.Datas, impl.VmRun(m, 1), "")
		wantOutcome(t, p.Datas, impl.VmRun(m, stepsMost), want)
	}
}

func TestOutcomeOfMadePrograms(t *testing.T) {
	s := steps(206)
	halted, not := 0, 0
	for i := range 900 {
		p := s.wholeProg(1 + i%7)
		if i%4 == 0 {
			p = s.madeProg(1 + i%7)
		}
		a, b := holdRuns(t, p, 1+s.below(8), 5+s.below(40), 200)
		halted, not = halted+a, not+b
	}
	if halted < 1200 || not < 150 {
		t.Errorf("%d have halted, %d have not", halted, not)
	}
}

// What a program makes may be greater than what comes out.
func TestOutcomeOfProgramsThatMakeTooMuch(t *testing.T) {
	for _, c := range []struct {
		src  string
		want bool
	}{
		{doubled + "d 10", true}, {doubled + "d 11", false}, {doubled + "d 60", false},
		{"rec f n = if n then C n (f (n - 1)) else N in f 110", true},
	} {
		p := evalProg(c.src)
		m, _ := impl.VmNew(funsOf(t, p), 1000, false)
		m = impl.VmRun(m, stepsMost)
		if m.Code != impl.VmHalt || holdOutcome(t, p.Datas, m) != c.want {
			t.Errorf("%s is of code %d, and comes out: %v", c.src, m.Code, !c.want)
		}
	}
}

func TestRandomOutcomes(t *testing.T) {
	s := steps(207)
	met := map[bool]int{}
	for i := range 6000 {
		h, places := s.valueHeap(1+i%12, 1, i%2)
		m := s.randomVm(s.randomFuns(i), 2)
		m.Heap, m.Code, m.Stack = h, impl.VmHalt, s.wordsAsked(h, places)
		if i%5 == 0 {
			m.Code = s.below(8) - 1
		}
		at := s.below(len(m.Stack))
		m.Stack = m.Stack[at:min(at+1+s.below(5)/4, len(m.Stack))]
		if i%11 == 0 {
			s.turnVm(&m)
		}
		met[holdOutcome(t, backDatas(), m)]++
	}
	if met[true] < 1500 || met[false] < 1500 {
		t.Errorf("it comes out and not %v times", met)
	}
}

// Neither datas nor a Vm are written into, and what is answered is new.
func TestOutcomesAreNewMemory(t *testing.T) {
	s := steps(208)
	met := map[bool]int{}
	for i := range 2000 {
		h, places := s.valueHeap(3+i%20, 1, 0)
		m := s.randomVm(s.randomFuns(i), 2)
		m.Heap, m.Code, m.Stack = h, impl.VmHalt, []int{s.wordsAsked(h, places)[min(4+s.below(9), 4+len(places))]}
		if i%9 == 0 {
			s.turnVm(&m)
		}
		m = vmWithRoom(m)
		p := withRoom(impl.Prog{Datas: backDatas()})
		kept, keptDatas := toldVmWithRoom(m), toldWithRoom(p)
		v, ok := impl.Outcome(p.Datas, m)
		other, _ := impl.Outcome(p.Datas, m)
		want := toldValue(v)
		var lists, texts pieces
		addProg(&lists, &texts, p)
		addVm(&lists, m)
		addValue(&lists, &texts, v)
		addValue(&lists, &texts, other)
		if lists.overlap() || texts.overlap() {
			t.Fatalf("Outcome of %s shares memory", toldVm(m))
		}
		spoilValue(v)
		if again, still := impl.Outcome(p.Datas, m); toldValue(other) != want || toldValue(again) != want || still != ok {
			t.Fatalf("asked again, %s is told otherwise", toldVm(m))
		}
		if toldVmWithRoom(m) != kept || toldWithRoom(p) != keptDatas {
			t.Fatalf("%.500s is written into", kept)
		}
		met[ok]++
	}
	if met[true] < 1200 || met[false] < 100 {
		t.Errorf("it comes out and not %v times", met)
	}
}
