package tests

import (
	"runtime"
	"slices"
	"strings"
	"sync"
	"testing"

	"loop.example/g00323/impl"
)

// anyProg is a program, or none: with types, without, turned at some spot, or of any ops.
func (s *steps) anyProg(i int) impl.Prog {
	p := s.wholeProg(1 + i%6)
	s.withTelling(&p)
	switch i % 7 {
	case 0:
		p = s.randomProg(1 + i%5)
	case 1:
		s.turned(&p)
	case 2:
		s.swappedNode(&p)
	case 3:
		p.Datas = nil
	}
	return p
}

// judgedVm is a machine that ran the program, or any other one; what it told, its Code and its stack may be others then.
func (s *steps) judgedVm(p impl.Prog, means impl.Result, i int) impl.Vm {
	m, code := impl.RunOf(impl.Write(p), 1+s.below(60), i%2 == 0, s.below(200))
	if code != impl.BdDone || s.below(5) == 0 {
		m = s.randomVm(s.randomFuns(i), 1+i%30)
		m.Out = slices.Clone(means.Out)
	}
	switch s.below(9) {
	case 0:
		m.Out = append(m.Out, s.below(5))
	case 1:
		m.Out = m.Out[:s.below(len(m.Out)+1)]
	case 2:
		if len(m.Out) > 0 {
			m.Out[s.below(len(m.Out))] += s.below(3) - 1
		}
	case 3:
		m.Code = s.below(8) - 1
	case 4:
		m.Code, m.Calls, m.Stack = impl.VmHalt, nil, m.Stack[len(m.Stack)-1:]
	case 5:
		if len(m.Stack) > 0 && len(m.Calls) > 0 {
			s.turnVm(&m)
		}
	}
	return m
}

func TestSameOfAnyProgramAndMachine(t *testing.T) {
	s := steps(225)
	type kind struct{ halted, means, same int }
	met := map[kind]int{}
	for i := range 5000 {
		p := s.anyProg(i)
		j := trialOf(p)
		for range 3 {
			m := s.judgedVm(p, j.means, i)
			k := kind{means: j.means.Code}
			if m.Code == impl.VmHalt {
				k.halted = 1
			}
			if j.holdJudged(t, m) {
				k.same = 1
			}
			met[k]++
		}
	}
	for k, least := range map[kind]int{{0, impl.EvDone, 0}: 300, {0, impl.EvDone, 1}: 1000, {1, impl.EvDone, 0}: 1000, {1, impl.EvDone, 1}: 1500, {0, impl.EvStuck, 0}: 300, {0, impl.EvStuck, 1}: 500, {1, impl.EvStuck, 0}: 300, {0, impl.EvFuel, 1}: 1} {
		if met[k] < least {
			t.Errorf("halted, what it means, and the judgement are %v", met)
		}
	}
	if met[kind{1, impl.EvStuck, 1}] > 0 {
		t.Errorf("what is stuck has a machine that is the same")
	}
}

// Each program against each other one's machine: halted, they are the same only where all that is told and their values are.
func TestSameOfOtherPrograms(t *testing.T) {
	sources := []string{"1", "2", "put 1", "put 2", "N", "C 1 N", "C 2 N", "C (put 1) N", "let a = put 1 in 1", "let a = put 2 in 1", "let a = put 1 in let b = put 1 in 1", "let a = put 1 in let b = put 2 in 1", "let a = put 2 in let b = put 1 in 1", "let a = put 1 in let b = put 2 in 2", "fun x -> x", "fun x -> put 1", "let a = put 1 in fun x -> a", "rec f n = f n in f 1", "rec f n = f (put n) in f 1", "rec f n = f (put 1) in f 2", "let a = put 1 in rec f n = f n in f 1", "let a = put 2 in rec f n = f n in f 1", doubled + "d 11", "let a = put 1 in " + doubled + "d 11"}
	both := 0
	for _, src := range sources {
		j := trialOf(evalProg(src))
		for _, other := range sources {
			means := trialOf(evalProg(other)).means
			m, code := impl.RunOf(evalDatas+other, 100, true, stepsMost)
			if code != impl.BdDone {
				t.Fatalf("%s is of code %d", other, code)
			}
			want := !partsBy(means.Out, j.means.Out)
			if means.Code == impl.EvDone && j.means.Code == impl.EvDone {
				want = meansText(means) == meansText(j.means)
			}
			// The machine may have told more than is meant, or less, where it halted though fuel was lacking.
			if m.Code == impl.VmHalt && means.Code == impl.EvFuel && j.means.Code == impl.EvDone {
				want = false
			}
			j.wantSame(t, src+", held against "+other, m, want)
			if want {
				both++
			}
		}
	}
	if both < 60 || both > len(sources)*len(sources)-200 {
		t.Errorf("%d are the same", both)
	}
}

// Neither a program nor a machine are written into, nor the room behind their lists; asked again, they are judged alike.
func TestJudgedIsNotWrittenInto(t *testing.T) {
	s := steps(226)
	met := map[bool]int{}
	for i := range 2500 {
		p := s.anyProg(i)
		means := impl.Eval(p, fuelMost)
		p, m := withRoom(p), vmWithRoom(s.judgedVm(p, means, i))
		keptProg, keptVm := toldWithRoom(p), toldVmWithRoom(m)
		same, never := impl.JudgeSame(p, m), impl.JudgeNever(m)
		if toldWithRoom(p) != keptProg || toldVmWithRoom(m) != keptVm {
			t.Fatalf("%.500s and %.500s are written into", keptProg, keptVm)
		}
		// What is told of one program and machine, spoiled, does not come back in another answer.
		spoilValue(means.Value)
		if impl.JudgeSame(p, m) != same || impl.JudgeNever(m) != never || impl.JudgeSame(withRoom(p), copyVm(m)) != same {
			t.Fatalf("%.500s and %.500s are judged otherwise the second time", keptProg, keptVm)
		}
		met[same]++
	}
	if met[true] < 800 || met[false] < 400 {
		t.Errorf("they are the same and not %v times", met)
	}
	for _, src := range someTexts() {
		kept := strings.Clone(src)
		impl.JudgeAll(src, 20, true, 50)
		if src != kept {
			t.Fatalf("%s is written into", ending(kept))
		}
	}
}

// The lists of a program and of a machine may be the same memory.
func TestSameOfSharedLists(t *testing.T) {
	words := []int{1, 1, 1, 1, 1, 1}
	m := impl.Vm{Funs: []impl.Fun{aFunction(0, opsOf("num 1, ret")...)}, Heap: impl.Heap{Words: words, Half: 3}, Stack: words[:1], Out: words[1:3], Code: impl.VmHalt}
	j := trialOf(evalProg("let a = put 1 in let b = put 1 in 0"))
	j.wantSame(t, "shared", m, true)
	m.Out = words[1:4]
	j.wantSame(t, "shared, with one more", m, false)
	// Two kids that are one list.
	kids := []impl.Node{node(impl.NdPut, aNum(1))}
	p := impl.Prog{Main: node(impl.NdAdd, impl.Node{Op: impl.NdPut, Kids: kids}, impl.Node{Op: impl.NdPut, Kids: kids})}
	m.Stack, m.Out = []int{intOf(2)}, []int{1, 1, 1, 1}
	trialOf(p).wantSame(t, "kids that are one list", m, true)
}

// Great programs and machines are judged, whatever is in them.
func TestSameOfGreatThings(t *testing.T) {
	const many = 1000000
	m := haltedVm(false, 0, intOf(1))
	started := someVm(true)
	ones := slices.Repeat([]int{1}, many)
	deep := chain(many, aNum(1), func(n impl.Node) impl.Node { return node(impl.NdPut, n) })
	wide := node(impl.NdCon, slices.Repeat([]impl.Node{aNum(1)}, many)...)
	wide.S = "C"
	quickly(t, "a great program", func() {
		for _, p := range []impl.Prog{{Main: deep}, {Datas: make([]impl.Data, many), Main: aNum(1)}, {Datas: []impl.Data{oneData("D", 0, make([]impl.Con, many)...)}, Main: aNum(1)}, {Main: impl.Node{Op: impl.NdVar, S: strings.Repeat("x", many)}}} {
			if impl.JudgeSame(p, m) || !impl.JudgeSame(p, started) {
				t.Error("a great program is judged as a right one")
			}
		}
		// There is no fuel for so many kids.
		for _, p := range []impl.Prog{{Main: wide}, {Datas: datasOf(backText), Main: wide}} {
			if !impl.JudgeSame(p, m) || !impl.JudgeSame(p, started) {
				t.Error("a wide program is judged as one with fuel")
			}
		}
	})
	quickly(t, "a great machine", func() {
		j := trialOf(evalProg("let a = put 1 in rec f n = f (put n) in f 1"))
		for _, code := range []int{impl.VmGo, impl.VmHalt, impl.VmRoom} {
			great := started
			great.Out, great.Code = ones, code
			if !impl.JudgeSame(j.prog, great) {
				t.Error("a beginning and a million more are not the same")
			}
			great.Out = append(slices.Clone(ones), greatest+1)
			if impl.JudgeSame(j.prog, great) {
				t.Error("with no word at the end they are the same")
			}
			great.Out, great.Stack = nil, ones
			if impl.JudgeSame(j.prog, great) {
				t.Error("with a million words on the stack they are the same")
			}
			great.Stack, great.Heap.Words = []int{1, 1}, ones
			if impl.JudgeSame(j.prog, great) {
				t.Error("with a million words in the heap they are the same")
			}
		}
	})
	quickly(t, "a great text", func() {
		for _, src := range []string{strings.Repeat("1", many), strings.Repeat("(", many), strings.Repeat(" ", many), "1" + strings.Repeat(" ", sourceBytes-1)} {
			if !impl.JudgeAll(src, halfMost, true, stepsMost) {
				t.Errorf("JudgeAll of %s is false", ending(src))
			}
		}
	})
}

// Many calls at the same time judge alike.
func TestJudgedAtTheSameTime(t *testing.T) {
	s := steps(227)
	type pair struct {
		prog impl.Prog
		vm   impl.Vm
		same bool
	}
	var pairs []pair
	for i := range 60 {
		p := s.anyProg(i)
		m := s.judgedVm(p, impl.Eval(p, fuelMost), i)
		pairs = append(pairs, pair{p, m, impl.JudgeSame(p, m)})
	}
	texts := someTexts()
	begun := runtime.NumGoroutine()
	wrong := make(chan string, 16)
	var all sync.WaitGroup
	for n := range 16 {
		all.Add(1)
		go func() {
			defer all.Done()
			for i, p := range pairs {
				src := texts[(i*7+n)%len(texts)]
				if impl.JudgeSame(p.prog, p.vm) != p.same || !impl.JudgeAll(src, 1+i, n%2 == 0, 100) {
					wrong <- ending(src) + " and " + toldVm(p.vm)
					return
				}
			}
		}()
	}
	all.Wait()
	close(wrong)
	for text := range wrong {
		t.Errorf("at the same time %s are judged otherwise", text)
	}
	for range 1000 {
		if runtime.NumGoroutine() <= begun {
			return
		}
		runtime.Gosched()
	}
	t.Errorf("at last %d go on, not %d", runtime.NumGoroutine(), begun)
}
