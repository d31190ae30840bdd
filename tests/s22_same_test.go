package tests

import (
	"math"
	"slices"
	"strconv"
	"strings"
	"testing"

	"loop.example/g00323/impl"
)

const tellsBefore = "let t = put 4 in let u = put (0 - 4) in "

// backTrial is a program over backDatas.
func backTrial(src string) trial {
	p, bad := impl.Parse(backText + src)
	if bad != -1 {
		panic("no program: " + src)
	}
	p.Datas = backDatas()
	return trialOf(p)
}

// What has halted tells just what is meant, and its value is just that.
func TestSameOfValues(t *testing.T) {
	sources := map[string]string{"6": "2 * 3", "-1073741824": "1073741823 + 1", "E": "E", "(C 3 E)": "C 3 E", "fun": "fun x -> x", "(S fun)": "S (fun x -> t)", "(T -1 (C 3 E) fun)": "T (0 - 1) (C 3 E) (fun x -> x)", "(P (C 3 E) (C 3 E))": "let c = C 3 E in P c c", "N": "N"}
	movedBoth(40, func(second bool, from int) {
		words := map[string]int{"6": intOf(6), "-1073741824": intOf(least), "E": refOf(from), "(C 3 E)": refOf(from + 1), "fun": refOf(from + 4), "(S fun)": refOf(from + 8), "(T -1 (C 3 E) fun)": refOf(from + 10), "(P (C 3 E) (C 3 E))": refOf(from + 14), "N": refOf(from + 38)}
		for means, src := range sources {
			j := backTrial(tellsBefore + src)
			if got := meansText(j.means); got != "done "+means+": 4 -4" {
				t.Fatalf("%s is %s", src, got)
			}
			for text, w := range words {
				j.wantSame(t, "a value", haltedVm(second, from, w), text == means)
				j.wantSame(t, "a value that is no outcome", haltedVm(second, from, w, w), false)
			}
			// One function is like any other.
			j.wantSame(t, "another function", haltedVm(second, from, refOf(from+5)), means == "fun")
			j.wantSame(t, "no word on the stack", haltedVm(second, from), false)
			for _, w := range []int{refOf(from + 2), refOf(from + 39), refOf(40 - from), refOf(-1), intOf(greatest + 1), intOf(least - 1)} {
				j.wantSame(t, "a word that is none", haltedVm(second, from, w), false)
			}
		}
	})
}

// The value's cons are those of the program, whatever the machine's were.
func TestSameOfDatas(t *testing.T) {
	const same = "data A = A | B Int; data C = C Int A; "
	for src, want := range map[string]bool{
		same + "C 3 A": true, same + "C 3 (B 3)": false, same + "C 4 A": false, same + "B 3": false, "data Y = A | X Int; data Z = C Int Y; C 3 A": true, "data Y = X | B Int; data C = C Int Y; C 3 X": true,
		"data C = C Int A; data A = A | B Int; C 3 A": false, "data A = A; data C = C Int A; C 3 A": false, "data A = B Int | A; data C = C Int A; C 3 A": false, "data A = A; C 3 A": false, "3": false,
	} {
		p, bad := impl.Parse(src)
		if bad != -1 {
			t.Fatalf("no program: %s", src)
		}
		movedBoth(9, func(second bool, from int) {
			h, _ := heapOf(9, second, conBlock(0), conBlock(2, intOf(3), refOf(from)))
			m := impl.Vm{Funs: []impl.Fun{aFunction(0, opsOf("num 1, ret")...)}, Heap: h, Stack: []int{refOf(from + 1)}, Code: impl.VmHalt}
			// Of the cons that are X in other datas, only the text counts.
			text := outcomeBy(p.Datas, m)
			trialOf(p).wantSame(t, src+", which comes out as "+text, m, want)
		})
	}
}

// halted is a machine that has halted, with what it told and its value.
func halted(t *testing.T, src string, half int, each bool) (trial, impl.Vm) {
	t.Helper()
	m, code := impl.RunOf(evalDatas+src, half, each, stepsMost)
	if code != impl.BdDone || m.Code != impl.VmHalt {
		t.Fatalf("%s is of code %d and %s", src, code, toldVm(m))
	}
	return trialOf(evalProg(src)), m
}

// otherOuts are none of the ints that a list of them has; each parts from it, is shorter, or is longer.
func otherOuts(out []int) (shorter, longer, parting [][]int) {
	for i, n := range out {
		shorter = append(shorter, out[:i])
		for _, other := range []int{n + 1, n - 1, -n - 1, greatest - n, least} {
			one := slices.Clone(out)
			one[i] = other
			parting = append(parting, one, one[:i+1], append(slices.Clone(one), 7))
		}
	}
	for _, more := range [][]int{{0}, {7}, {greatest}, out, append(slices.Clone(out), 1)} {
		if len(more) > 0 {
			longer = append(longer, append(slices.Clone(out), more...))
		}
	}
	return shorter, longer, parting
}

const (
	tellsThree = "let a = put 1 in let b = put 2 in let c = put (0 - 3) in C a (C b N)"
	tellsOne   = "put 5"
	tellsNone  = "C 1 N"
)

// Halted, it has told all, no more, and nothing else.
func TestSameOfWhatWasTold(t *testing.T) {
	for _, src := range []string{tellsThree, tellsOne, tellsNone} {
		for _, each := range []bool{false, true} {
			j, m := halted(t, src, 9, each)
			j.wantSame(t, "as it is", m, true)
			shorter, longer, parting := otherOuts(j.means.Out)
			for what, outs := range map[string][][]int{"it lacks some": shorter, "it has more": longer, "it has another": parting} {
				for _, out := range outs {
					m.Out = out
					j.wantSame(t, what, m, false)
				}
			}
			m.Out = slices.Clone(j.means.Out)
			slices.Reverse(m.Out)
			j.wantSame(t, "the other way round", m, len(m.Out) < 2)
		}
	}
}

// With the right words told, the value may still be another one, or none.
func TestSameOfOtherStacks(t *testing.T) {
	j, m := halted(t, tellsThree, 20, false)
	h, places := heapOf(20, true, conBlock(0), conBlock(1, intOf(2), refOf(20)), conBlock(1, intOf(1), refOf(21)), conBlock(1, intOf(1), refOf(20)), conBlock(1, intOf(1)), conBlock(99), funBlock(0), conBlock(2, intOf(1), refOf(21)))
	m.Heap = h
	for i, p := range places {
		m.Stack = []int{refOf(p)}
		j.wantSame(t, "block "+strconv.Itoa(i), m, i == 2)
		m.Stack = []int{refOf(p), refOf(p)}
		j.wantSame(t, "two words", m, false)
		m.Stack = []int{1, refOf(p)}
		j.wantSame(t, "a word below it", m, false)
	}
	for _, stack := range [][]int{nil, {}, {1}, {3}, {refOf(places[2]), 1}, {refOf(places[2]) + 2}, {0}, {-2}, slices.Repeat([]int{refOf(places[2])}, stackMost)} {
		m.Stack = stack
		j.wantSame(t, "another stack", m, false)
	}
	m.Stack = []int{refOf(places[2])}
	for words := range 3 {
		// Of its value only what can be seen counts, not what is beside it.
		m.Heap.Words[words] = 9
		j.wantSame(t, "other words elsewhere", m, true)
	}
	m.Each = true
	j.wantSame(t, "each", m, true)
	m.Funs = []impl.Fun{aFunction(0, opsOf("fail")...)}
	j.wantSame(t, "other functions", m, true)
}

// unhalted are machines that go on no more, or do, without having halted.
func unhalted(out []int) []impl.Vm {
	var list []impl.Vm
	for _, code := range []int{impl.VmGo, impl.VmRoom, impl.VmDeep, impl.VmFail, impl.VmFault} {
		m := someVm(code%2 == 0)
		m.Out, m.Code = out, code
		list = append(list, m)
	}
	return list
}

// Of what has not halted, and of what has too little fuel, one may have told more than the other, but nothing else.
func TestSameOfWhatHasNotHalted(t *testing.T) {
	// What it means, it may be without a value.
	for _, src := range []string{tellsThree, tellsOne, tellsNone, "let a = put 1 in let b = put 2 in 1 b", "let a = put 1 in nobody", "case put 8 of { 7 -> 1 }", "rec f n = f (put n + 1) in f 3", "let a = put 1 in " + doubled + "d 11", "1 2", "nobody"} {
		j := trialOf(evalProg(src))
		shorter, longer, parting := otherOuts(j.means.Out[:min(len(j.means.Out), 9)])
		for _, out := range slices.Concat(shorter, [][]int{nil, {}, j.means.Out}) {
			for _, m := range unhalted(out) {
				j.wantSame(t, "a beginning", m, true)
			}
		}
		for _, out := range parting {
			for _, m := range unhalted(out) {
				j.wantSame(t, "it parts", m, false)
			}
		}
		for _, out := range longer {
			if len(j.means.Out) > 9 {
				break
			}
			for _, m := range unhalted(out) {
				j.wantSame(t, "it has told more", m, true)
			}
		}
	}
}

// What means no value has a machine that halts only where fuel was lacking; then only what was told counts.
func TestSameOfWhatMeansNoValue(t *testing.T) {
	for _, src := range []string{"let a = put 5 in case put (0 - 5) of { 7 -> 1 }", "let a = put 5 in let b = put (0 - 5) in 1 2", "let a = put 5 in let b = put (0 - 5) in N + 1", "let a = put 5 in let b = put (0 - 5) in nobody", "let a = put 5 in let b = put (0 - 5) in C 1", "let a = put 5 in let b = put (0 - 5) in Nobody"} {
		j := trialOf(evalProg(src))
		if got := meansText(j.means); got != "stuck: 5 -5" {
			t.Fatalf("%s is %s", src, got)
		}
		for _, m := range unhalted([]int{5, -5}) {
			j.wantSame(t, "not halted", m, true)
			for _, out := range [][]int{{5, -5}, {5}, nil, {5, -5, 1}, {4}} {
				for _, stack := range [][]int{{1}, {refOf(m.Heap.Base)}, nil, {1, 1}} {
					m.Code, m.Calls, m.Stack, m.Out = impl.VmHalt, nil, stack, out
					j.wantSame(t, "halted", m, false)
				}
			}
		}
	}
	for _, src := range []string{"let a = put 5 in let b = put (0 - 5) in rec f n = f n in f 1", "let a = put 5 in let b = put (0 - 5) in " + doubled + "d 11"} {
		j := trialOf(evalProg(src))
		if got := meansText(j.means); got != "fuel: 5 -5" {
			t.Fatalf("%s is %s", src, got)
		}
		for out, want := range map[string]bool{"5 -5": true, "5": true, "": true, "5 -5 1": true, "5 -5 -5 5": true, "4": false, "5 -4": false, "5 5": false, "-5": false, "4 -5 1": false, "5 -4 1": false} {
			for _, m := range unhalted(numbersOf(out)) {
				j.wantSame(t, "not halted", m, want)
				for _, stack := range [][]int{{1}, {intOf(least)}, {refOf(m.Heap.Base)}, {refOf(m.Heap.Base + 4)}, nil, {1, 1}} {
					m.Code, m.Calls, m.Stack = impl.VmHalt, nil, stack
					j.wantSame(t, "halted", m, want)
				}
			}
		}
	}
}

func numbersOf(text string) []int {
	var list []int
	for _, word := range strings.Fields(text) {
		n, _ := strconv.Atoi(word)
		list = append(list, n)
	}
	return list
}

// What is no program means no value, and tells nothing.
func TestSameOfNoProgram(t *testing.T) {
	ring := aFun("x", aVar("x"))
	ring.Kids[0] = aFun("x", aVar("x"))
	ring.Kids[0].Kids = ring.Kids
	for what, p := range map[string]impl.Prog{
		"zero": {}, "a number that is none": {Main: aNum(greatest + 1)}, "an op that is none": {Main: node(99)}, "a pattern": {Main: varPat("x")}, "a kid too few": {Main: node(impl.NdAdd, aNum(1))},
		"datas that are not right": {Datas: datasOf("data A = A; data A = B;"), Main: node(impl.NdPut, aNum(4))}, "a ring": {Main: ring},
		"too deep": {Main: chain(treeDeep, aNum(4), func(n impl.Node) impl.Node { return node(impl.NdPut, n) })},
	} {
		j := trialOf(p)
		for _, out := range [][]int{nil, {4}, {4, -4}} {
			for _, m := range unhalted(out) {
				j.wantSame(t, what, m, true)
			}
			m := haltedVm(true, 40, intOf(4))
			m.Out = out
			j.wantSame(t, what, m, false)
		}
	}
}

// With all fuel and no more it is held against its value; with one node more, only against what it told.
func TestSameOfAllFuel(t *testing.T) {
	// Each put is one node.
	for more := range 6 {
		j := trialOf(withPuts(countDown(570), more))
		hasValue := 3997+more <= fuelMost
		if hasValue != (j.means.Code == impl.EvDone) {
			t.Fatalf("what begins %d nodes is %s", 3997+more, meansText(j.means))
		}
		for n := range 2 {
			for many := range 7 {
				m := haltedVm(false, 0, intOf(n))
				m.Out = slices.Repeat([]int{n}, many)
				want := n == 0 && many == more
				if !hasValue {
					want = n == 0 || many == 0 || len(j.means.Out) == 0
				}
				j.wantSame(t, "a machine", m, want)
			}
		}
	}
}

// As many values as there may be, and one more.
func TestSameOfGreatValues(t *testing.T) {
	const all = "R (d 10) (d 9) (d 8) (d 7) (d 6) (d 4) (d 1)"
	for more := range 5 {
		src := doubled + all + strings.Repeat(" L", more)
		p := treesOf(7+more, src)
		m, code := impl.RunOf(impl.Write(p), halfMost, false, stepsMost)
		if code != impl.BdDone || m.Code != impl.VmHalt {
			t.Fatalf("%s is of code %d and %s", src, code, toldVm(m))
		}
		j := trialOf(p)
		if done := j.means.Code == impl.EvDone; done != (3998+more <= valueMost) {
			t.Fatalf("%d values are %s", 3998+more, meansText(j.means))
		}
		j.wantSame(t, "a great value", m, true)
		m.Stack[0] = intOf(1)
		j.wantSame(t, "another value", m, 3998+more > valueMost)
	}
}

// A value that is deeper than what comes out of a machine is meant, and has no outcome.
func TestSameOfDeepValues(t *testing.T) {
	for _, c := range []struct {
		many int
		leaf string
		want bool
	}{{1, "L", true}, {90, "L", true}, {99, "L", true}, {99, "(U L)", true}, {99, "(U (U L))", false}, {100, "L", false}, {100, "(U L)", false}, {101, "L", false}, {110, "L", false}} {
		src := "rec f n = fun t -> if n then f (n - 1) (U (U t)) else t in f " + strconv.Itoa(c.many) + " " + c.leaf
		j, m := halted(t, src, 1000, false)
		if _, deep := insideOf(j.means.Value); j.means.Code != impl.EvDone || c.want != (deep <= tyMost) {
			t.Fatalf("%s is %s", src, meansText(j.means))
		}
		j.wantSame(t, src, m, c.want)
		w := workpieceOf(evalDatas + src)
		if got := impl.JudgeAll(evalDatas+src, 1000, false, stepsMost); got != c.want || !impl.JudgeAll(evalDatas+src, 10, false, stepsMost) || !impl.JudgeAll(evalDatas+src, 1000, false, 900) || w.code() != impl.BdDone {
			t.Errorf("JudgeAll of %s is %v", src, got)
		}
		// Its value is asked from the very step at which it halts, and in the first half that has room for it.
		begun, _ := impl.VmNew(m.Funs, 1000, false)
		many, room := needed(begun, stepsMost), 1
		for code := impl.VmRoom; code == impl.VmRoom; room++ {
			ran, _ := impl.RunOf(evalDatas+src, room, true, stepsMost)
			code = ran.Code
		}
		for _, turn := range []struct {
			half, many int
			ends       bool
		}{{1000, many, true}, {1000, many + 1, true}, {1000, many - 1, false}, {1000, 0, false}, {1000, -1, false}, {room - 1, stepsMost, true}, {room - 2, stepsMost, false}, {halfMost, many, true}, {halfMost + 1, many, false}, {0, many, false}} {
			if got := impl.JudgeAll(evalDatas+src, turn.half, true, turn.many); got != (c.want || !turn.ends) {
				t.Errorf("JudgeAll of %s in a half of %d, by %d steps is %v", src, turn.half, turn.many, got)
			}
		}
	}
}

// wrongTurns are what makes a Vm not right, each in one way; all of it that is seen stays.
func wrongTurns() map[string]func(m *impl.Vm) {
	return map[string]func(m *impl.Vm){
		"no functions":                           func(m *impl.Vm) { m.Funs = nil },
		"61 functions":                           func(m *impl.Vm) { m.Funs = append(m.Funs, manyFuns(61-len(m.Funs))...) },
		"a first function that keeps something":  func(m *impl.Vm) { m.Funs[0].Free = 1 },
		"a function that keeps too much":         func(m *impl.Vm) { m.Funs = append(m.Funs, aFunction(keptMost+1, retOp())) },
		"a function without places":              func(m *impl.Vm) { m.Funs = append(m.Funs, impl.Fun{}) },
		"a place of no Code":                     func(m *impl.Vm) { m.Funs[0].List[0].Code = 22 },
		"a place that leads nowhere":             func(m *impl.Vm) { m.Funs[0].List = opsOf("jump 9") },
		"a function without an end":              func(m *impl.Vm) { m.Funs = append(m.Funs, aFunction(0, oneOp())) },
		"a half of none":                         func(m *impl.Vm) { m.Heap.Half = 0 },
		"a half that is greater":                 func(m *impl.Vm) { m.Heap.Half++ },
		"a word less":                            func(m *impl.Vm) { m.Heap.Words = m.Heap.Words[:len(m.Heap.Words)-1] },
		"a word more":                            func(m *impl.Vm) { m.Heap.Words = append(m.Heap.Words, 0) },
		"a Base that is none":                    func(m *impl.Vm) { m.Heap.Base++ },
		"a Next that is too far":                 func(m *impl.Vm) { m.Heap.Next = m.Heap.Base + m.Heap.Half + 1 },
		"a Next that is too near":                func(m *impl.Vm) { m.Heap.Next = m.Heap.Base - 1 },
		"a block of no header":                   func(m *impl.Vm) { m.Heap.Words[m.Heap.Next] = 0; m.Heap.Next++ },
		"a kid that is no block":                 func(m *impl.Vm) { addBlock(m, refOf(m.Heap.Next+1)) },
		"a kid that is no word":                  func(m *impl.Vm) { addBlock(m, intOf(greatest+1)) },
		"a kid of the other half":                func(m *impl.Vm) { addBlock(m, refOf(m.Heap.Half-m.Heap.Base)) },
		"601 words":                              func(m *impl.Vm) { m.Stack = append(m.Stack, slices.Repeat([]int{1}, 601-len(m.Stack))...) },
		"an int word of no word":                 func(m *impl.Vm) { m.Stack[0] = intOf(greatest + 1) },
		"a place of no block":                    func(m *impl.Vm) { m.Stack[0] = refOf(m.Heap.Base + 1) },
		"a place of the other half on the stack": func(m *impl.Vm) { m.Stack[0] = refOf(m.Heap.Half - m.Heap.Base) },
		"121 calls": func(m *impl.Vm) {
			m.Stack, m.Calls = slices.Repeat([]int{1}, 600), manyCalls(121)
		},
		"a call of no function": func(m *impl.Vm) { m.Calls = []impl.Call{{Fun: len(m.Funs), Base: 1}} },
		"a call at no place":    func(m *impl.Vm) { m.Calls = []impl.Call{{Pc: len(m.Funs[0].List), Base: 1}} },
		"a Base below all":      func(m *impl.Vm) { m.Calls = []impl.Call{{Base: 0}} },
		"a Base above all":      func(m *impl.Vm) { m.Calls = []impl.Call{{Base: len(m.Stack)}} },
		"Bases that come down":  func(m *impl.Vm) { m.Stack, m.Calls = []int{1, 1, 1}, []impl.Call{{Base: 2}, {Base: 1}} },
		"Bases alike":           func(m *impl.Vm) { m.Stack, m.Calls = []int{1, 1, 1}, []impl.Call{{Base: 1}, {Base: 1}} },
		"no word at the end":    func(m *impl.Vm) { m.Out = append(m.Out, greatest+1) },
		"no word, too small":    func(m *impl.Vm) { m.Out = append(m.Out, least-1) },
		"a Code of -1":          func(m *impl.Vm) { m.Code = -1 },
		"a Code of 6":           func(m *impl.Vm) { m.Code = 6 },
		"a Code far off":        func(m *impl.Vm) { m.Code = math.MaxInt },
		"nothing":               func(m *impl.Vm) { *m = impl.Vm{} },
		"nothing, halted":       func(m *impl.Vm) { *m = impl.Vm{Code: impl.VmHalt} },
	}
}

// addBlock puts a con of one kid behind all.
func addBlock(m *impl.Vm, kid int) {
	m.Heap.Words[m.Heap.Next], m.Heap.Words[m.Heap.Next+1] = headOf(false, 3, 1), kid
	m.Heap.Next += 2
}

// What is not VmOk is none, whatever it told and is, and whatever the program means.
func TestSameOfWhatIsNotRight(t *testing.T) {
	told := "let a = put 5 in let b = put (0 - 5) in "
	for _, src := range []string{told + "6", told + "nobody", told + "rec f n = f n in f 1", "rec f n = f n in f 1", "nobody", "let a = put 5 in let b = put (0 - 5) in C 1 N"} {
		j := trialOf(evalProg(src))
		for what, turn := range wrongTurns() {
			for _, second := range []bool{false, true} {
				halted := someVm(second)
				halted.Code, halted.Calls, halted.Stack = impl.VmHalt, nil, []int{intOf(6)}
				for _, m := range append(unhalted([]int{5, -5}), halted) {
					if isRight := vmOkBy(m); !isRight {
						t.Fatalf("%s is not right", toldVm(m))
					}
					turn(&m)
					j.wantSame(t, what, m, false)
				}
			}
		}
		m := someVm(true)
		m.Calls = nil
		j.wantSame(t, "what goes on without calls", m, false)
	}
	// As many as there may be are right.
	j := trialOf(evalProg(tellsOne))
	for _, m := range unhalted([]int{5}) {
		m.Stack, m.Calls = slices.Repeat([]int{1}, 600), manyCalls(120)
		m.Funs = append(m.Funs, slices.Repeat([]impl.Fun{aFunction(20, retOp())}, 57)...)
		j.wantSame(t, "as many as there may be", m, true)
	}
}

func TestNeverOfEachCode(t *testing.T) {
	codes := map[int]bool{impl.VmGo: true, impl.VmHalt: true, impl.VmRoom: true, impl.VmDeep: true, impl.VmFail: false, impl.VmFault: false, -1: true, 6: true, 7: true, -4: true, -5: true, 260: true, 261: true, 1<<32 + 4: true, 1<<32 + 5: true, math.MinInt: true, math.MaxInt: true}
	for _, n := range edgeNumbers() {
		if n != impl.VmFail && n != impl.VmFault {
			codes[n] = true
		}
	}
	for code, want := range codes {
		// Whether it is right is not asked.
		wrong := someVm(true)
		wrong.Heap.Half, wrong.Stack, wrong.Funs = -1, nil, nil
		for _, m := range []impl.Vm{{}, someVm(false), someVm(true), wrong, haltedVm(true, 40, 1)} {
			m.Code = code
			if got := impl.JudgeNever(m); got != want || neverBy(m) != want {
				t.Errorf("JudgeNever of code %d is %v", code, got)
			}
		}
	}
}
