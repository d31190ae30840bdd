package tests

import (
	"math"
	"slices"
	"strings"
	"testing"

	"loop.example/g00323/impl"
)

// Of what is not built, and of what has no machine, all is true; so it is of what is built and right, by any number of steps.
func TestAllOfEachCode(t *testing.T) {
	for code, parts := range faultyParts() {
		for _, part := range parts[:3] {
			src := buildDatas() + part
			w := workpieceOf(src)
			if w.code() != code {
				t.Fatalf("%s is of code %d", ending(src), w.code())
			}
			for i, half := range append(manyEdges(), 3, 5, 30) {
				for k, many := range append(manyEdges(), 3, 5, 30) {
					if !holdAll(t, w, src, half, (i+k)%2 == 0, many) {
						t.Fatalf("JudgeAll of %s in a half of %d by %d steps is false", ending(src), half, many)
					}
				}
			}
		}
	}
}

// All halves from none on, moved ahead of each block and not, by each number of steps up to the last one, and by more.
func TestAllOfEachHalfAndStep(t *testing.T) {
	for _, src := range []string{"put 7", tellsThree, "let a = C 1 (C (put 2) N) in let b = case a of { N -> N; C _ t -> t } in let c = C 5 b in P c b", "rec f n = if n then C (put n) (f (n - 1)) else N in f 3", "rec f n = put n + f (n + 1) in f 0", "(fun x -> fun y -> put x + y) (put 3) (put 4)", "rec s t = case t of { L -> put 0; U a -> 1 + s a; B a b -> s a + s b } in s (B (U L) (B L L))"} {
		src = evalDatas + src
		w := workpieceOf(src)
		met := map[int]int{}
		for half := range 24 {
			for _, each := range []bool{false, true} {
				last := 60
				if half > 0 {
					last = needed(newVmBy(w.funs, half, each), 60)
				}
				for _, many := range append(fuelsUpTo(last+1), math.MinInt, -60000) {
					if !holdAll(t, w, src, half, each, many) {
						t.Fatalf("JudgeAll of %s in a half of %d, each %v, by %d steps is false", ending(src), half, each, many)
					}
				}
				for _, many := range []int{stepsMost - 1, stepsMost, stepsMost + 1, math.MaxInt} {
					m, code := impl.RunOf(src, half, each, many)
					if !impl.JudgeAll(src, half, each, many) || code == impl.BdDone && !sameBy(w.prog, trialOf(w.prog).means, m) {
						t.Fatalf("JudgeAll of %s in a half of %d, each %v, by %d steps is false", ending(src), half, each, many)
					}
					if code != impl.BdDone {
						m.Code = -code
					}
					met[m.Code]++
				}
			}
		}
		if met[-impl.BdGen] != 8 || met[impl.VmHalt]+met[impl.VmDeep] < 24 || met[impl.VmFail]+met[impl.VmFault] > 0 {
			t.Errorf("of %s the codes are %v", ending(src), met)
		}
	}
}

// What has no end, is too deep, or wants more than MaxFuel tells a beginning of what is meant, or more.
func TestAllOfWhatHasNoEnd(t *testing.T) {
	for src, want := range map[string]int{
		"rec f n = if n then f (n - 1) + f (n - 1) else put 1 in f 40": impl.VmGo, "rec f n = f (put n) in f 1": impl.VmDeep, "rec f n = 1 + (1 + (1 + put (f n))) in f 0": impl.VmDeep,
		"rec f n = if n then f (n - 1) + f (n - 1) else put 1 in f 8":          impl.VmHalt,
		"rec f n = if n then f (n - 1) + f (n - 1) else put n in put 1 + f 40": impl.VmGo, "rec f n = if n then let x = put n in let y = f (n - 1) in f (n - 1) else C 1 N in f 40": impl.VmGo,
		"let a = put 3 in " + doubled + "d 20": impl.VmHalt, "rec f n = C (put n) (f (n + 1)) in f 0": impl.VmDeep, "rec f n = let x = C n N in f n in f 0": impl.VmDeep,
	} {
		j := trialOf(evalProg(src))
		if j.means.Code != impl.EvFuel {
			t.Fatalf("%s is %.100s", src, meansText(j.means))
		}
		for _, half := range []int{1, 2, 3, 9, 200, halfMost} {
			for _, many := range []int{0, 1, 20, 399, 4000, stepsMost, math.MaxInt} {
				m, code := impl.RunOf(evalDatas+src, half, half%2 == 0, many)
				if code != impl.BdDone || !impl.JudgeAll(evalDatas+src, half, half%2 == 0, many) || !impl.JudgeSame(j.prog, m) {
					t.Errorf("JudgeAll of %s in a half of %d by %d steps is false: %s", src, half, many, toldVm(m))
				}
				if half == halfMost && many >= stepsMost && m.Code != want {
					t.Errorf("%s is at last of code %d, not %d", src, m.Code, want)
				}
				if len(m.Out) > 0 {
					m.Out[len(m.Out)-1]++
					// Behind the last one that is meant, anything may be told.
					j.wantSame(t, src, m, len(m.Out) > len(j.means.Out))
				}
			}
		}
	}
}

func TestAllOfTypedPrograms(t *testing.T) {
	for _, c := range typedPrograms() {
		src := evalDatas + c[1]
		w := workpieceOf(src)
		for _, half := range []int{1, 2, 3, 5, 8, 13, 20, 40, 100, halfMost} {
			for _, each := range []bool{false, true} {
				for _, many := range []int{-1, 0, 1, 7, 50, 200, stepsMost} {
					if !impl.JudgeAll(src, half, each, many) {
						t.Errorf("JudgeAll of %s in a half of %d, each %v, by %d steps is false", c[1], half, each, many)
					}
				}
				holdAll(t, w, src, half, each, 30)
			}
		}
	}
}

// withTelling puts a put about some ints that are written or reckoned.
func (s *steps) withTelling(p *impl.Prog) {
	ints := []int{impl.NdNum, impl.NdAdd, impl.NdSub, impl.NdMul, impl.NdLess, impl.NdSame}
	for _, n := range spotsOf(p).nodes {
		if slices.Contains(ints, n.Op) && s.below(3) > 0 {
			*n = node(impl.NdPut, *n)
		}
	}
}

// All hold of every drawn program, heap and number of steps; once a word that was told is another one, they do not.
func TestAllOfDrawnPrograms(t *testing.T) {
	s := steps(221)
	met := map[int]int{}
	for i := range 1800 {
		p := s.wholeProg(1 + i%7)
		if i%4 > 0 {
			s.withTelling(&p)
		}
		switch i % 10 {
		case 0:
			p = s.madeProg(1 + i%7)
		case 1:
			s.swappedNode(&p)
		case 2:
			s.withoutAlt(&p)
		}
		src := impl.Write(p)
		for range 4 {
			half := []int{s.below(8), 3 + s.below(30), 10 + s.below(200), 1 + s.below(halfMost+1)}[s.below(4)]
			each, many := s.below(2) == 0, []int{s.below(30), s.below(300), stepsMost, s.below(9) - 6}[s.below(4)]
			if !impl.JudgeAll(src, half, each, many) {
				t.Fatalf("JudgeAll of %s in a half of %d, each %v, by %d steps is false", ending(src), half, each, many)
			}
			m, code := impl.RunOf(src, half, each, many)
			if code != impl.BdDone {
				met[-code]++
				continue
			}
			met[m.Code]++
			if means := impl.Eval(p, fuelMost); len(m.Out) > 0 && len(m.Out) <= len(means.Out) {
				met[100]++
				m.Out[s.below(len(m.Out))]--
				if impl.JudgeSame(p, m) {
					t.Fatalf("with another word, JudgeSame of %s is true of %s", ending(src), toldVm(m))
				}
			}
		}
	}
	for code, least := range map[int]int{impl.VmGo: 1000, impl.VmHalt: 1000, impl.VmRoom: 200, -impl.BdType: 50, -impl.BdMiss: 50, -impl.BdGen: 50, 100: 1500} {
		if met[code] < least {
			t.Errorf("the codes are %v", met)
		}
	}
}

// Drawn programs against the second telling, text by text.
func TestAllOfDrawnTexts(t *testing.T) {
	s := steps(222)
	texts := someTexts()
	for i := range 300 {
		p := s.wholeProg(1 + i%6)
		s.withTelling(&p)
		src := impl.Write(p)
		if i%3 == 0 {
			words := strings.Fields(src)
			src = strings.Join(s.swapped(words), " ")
		}
		texts = append(texts, src)
	}
	for i, src := range texts {
		w := workpieceOf(src)
		for range 3 {
			if half := s.below(50); !holdAll(t, w, src, half, i%2 == 0, s.below(120)-5) {
				t.Fatalf("JudgeAll of %s in a half of %d is false", ending(src), half)
			}
		}
	}
}

// moments are a machine behind each step, till it goes on no more.
func moments(m impl.Vm, most int) []impl.Vm {
	all := []impl.Vm{m}
	for range most {
		if m.Code != impl.VmGo {
			break
		}
		m = impl.VmStep(m)
		all = append(all, m)
	}
	return all
}

// holdAsFound holds that each call has as many values as was found for its place. A call below another one waits for its value, which is found already.
func holdAsFound(t *testing.T, depths [][]int, m impl.Vm) {
	t.Helper()
	end := len(m.Stack)
	for i := len(m.Calls) - 1; i >= 0; i-- {
		c := m.Calls[i]
		if got, want := end-c.Base, depths[c.Fun][c.Pc]; got != want || got < 1 {
			t.Fatalf("at place %d of function %d there are %d values, not %d: %s", c.Pc, c.Fun, got, want, toldVm(m))
		}
		// The word of the function that was called stands for that value.
		end = c.Base
	}
	if len(m.Calls) > 0 && end != 1 || m.Code == impl.VmFault {
		t.Fatalf("it is %s", toldVm(m))
	}
}

// What is verified never lacks a value: at each moment of whole programs there are as many as was found, in any heap.
func TestValuesOfWholePrograms(t *testing.T) {
	s := steps(223)
	var sources []string
	for _, c := range typedPrograms() {
		sources = append(sources, evalDatas+c[1])
	}
	for i := range 300 {
		sources = append(sources, impl.Write(s.wholeProg(2+i%6)))
	}
	for _, parts := range faultyParts() {
		for _, part := range parts {
			sources = append(sources, buildDatas()+part)
		}
	}
	seen, deepest := 0, 0
	for _, src := range sources {
		funs, code := impl.Build(src)
		if code != impl.BdDone {
			continue
		}
		var depths [][]int
		for i := range funs {
			one, ok := impl.Depths(funs, i)
			if !ok {
				t.Fatalf("function %d of %s is not verified", i, ending(src))
			}
			depths = append(depths, one)
		}
		for i, half := range []int{1 + s.below(9), 10 + s.below(40), 400} {
			begun, _ := impl.VmNew(funs, half, i%2 == 0)
			for _, m := range moments(begun, 300) {
				holdAsFound(t, depths, m)
				seen, deepest = seen+1, max(deepest, len(m.Calls))
			}
		}
	}
	if seen < 15000 || deepest < 10 {
		t.Errorf("%d moments are seen, at most %d calls deep", seen, deepest)
	}
}

// However a program goes on, it is judged alike at each of its moments; and what it told there is the beginning of what it tells later.
func TestSameAtEachMoment(t *testing.T) {
	s := steps(224)
	seen := map[int]int{}
	for i := range 150 {
		p := s.wholeProg(2 + i%6)
		s.withTelling(&p)
		j := trialOf(p)
		funs, code := impl.Build(impl.Write(p))
		if code != impl.BdDone {
			continue
		}
		begun, _ := impl.VmNew(funs, 1+s.below(60), i%2 == 0)
		told := []int(nil)
		for _, m := range moments(begun, 100) {
			j.wantSame(t, "a moment", m, true)
			if !impl.JudgeNever(m) || !beginsWith(m.Out, told) {
				t.Fatalf("%s tells %v, and then %v", ending(impl.Write(p)), told, m.Out)
			}
			told = slices.Clone(m.Out)
			seen[m.Code]++
		}
	}
	if seen[impl.VmGo] < 2000 || seen[impl.VmHalt] < 80 || seen[impl.VmRoom] < 5 {
		t.Errorf("the codes are %v", seen)
	}
}
