package tests

import (
	"math"
	"slices"
	"testing"

	"loop.example/g00323/impl"
)

// someVm is at work: the second function was called by the first one, and the third one by that. The first half of its heap holds blocks at 0, 3, 4 and 7.
func someVm(second bool) impl.Vm {
	from := 0
	if second {
		from = 20
	}
	h, _ := heapOf(20, second, conBlock(3, intOf(7), intOf(-9)), conBlock(0), funBlock(1, intOf(5), refOf(from)), funBlock(2, refOf(from+3)))
	return impl.Vm{
		Funs: []impl.Fun{
			aFunction(0, opsOf("num 1, num 2, ret")...),
			aFunction(2, opsOf("local 0, free 1, num 4, fail")...),
			aFunction(1, opsOf("local 0, put, jump 0")...),
		},
		Heap:  h,
		Stack: []int{1, 1, refOf(from + 4), intOf(8), intOf(3), refOf(from), refOf(from + 7), intOf(4), intOf(5)},
		Calls: []impl.Call{{Fun: 0, Pc: 2, Base: 1}, {Fun: 1, Pc: 3, Base: 3}, {Fun: 2, Pc: 1, Base: 7}},
		Out:   []int{5, -5},
	}
}

func wantVmOk(t *testing.T, what string, m impl.Vm, want bool) {
	t.Helper()
	if vmOkBy(m) != want {
		t.Errorf("%s: the second telling of VmOk is %v", what, !want)
	}
	if impl.VmOk(m) != want {
		t.Errorf("%s: VmOk is %v of %s", what, !want, toldVm(m))
	}
	holdStep(t, m)
}

// wantVmTurned holds a Vm that is turned by some change, in both halves and with each code.
func wantVmTurned(t *testing.T, what string, want bool, turn func(m *impl.Vm)) {
	t.Helper()
	for _, second := range []bool{false, true} {
		for code := impl.VmGo; code <= impl.VmFault; code++ {
			m := someVm(second)
			m.Code = code
			turn(&m)
			wantVmOk(t, what, m, want)
		}
	}
}

func TestVmOkOfWhatIsRight(t *testing.T) {
	wantVmTurned(t, "as it is", true, func(m *impl.Vm) {})
	wantVmTurned(t, "each", true, func(m *impl.Vm) { m.Each = true })
	wantVmTurned(t, "no out", true, func(m *impl.Vm) { m.Out = nil })
	wantVmTurned(t, "one call", true, func(m *impl.Vm) { m.Calls = m.Calls[:1] })
	wantVmTurned(t, "the last call alone", true, func(m *impl.Vm) { m.Calls = m.Calls[2:] })
	wantVmTurned(t, "all ints", true, func(m *impl.Vm) { m.Stack = slices.Repeat([]int{intOf(greatest), intOf(least)}, 5) })
	wantVmTurned(t, "Bases one behind the other", true, func(m *impl.Vm) { m.Calls[0].Base, m.Calls[1].Base, m.Calls[2].Base = 1, 2, 3 })
	wantVmTurned(t, "Bases at the end", true, func(m *impl.Vm) { m.Calls[0].Base, m.Calls[1].Base, m.Calls[2].Base = 6, 7, 8 })
	wantVmTurned(t, "each call of another function than the one that stands there", true, func(m *impl.Vm) { m.Calls[1].Fun, m.Calls[2].Fun = 0, 0; m.Calls[1].Pc = 0 })
	wantVmTurned(t, "an int where the function itself should stand", true, func(m *impl.Vm) { m.Stack[6], m.Stack[2] = 1, 1 })
	wantVmTurned(t, "functions that lack values", true, func(m *impl.Vm) { m.Funs[2].List = opsOf("add, local 99, ret") })
	wantVmTurned(t, "a function's block of no function", true, func(m *impl.Vm) { m.Heap.Words[m.Heap.Base+4] = headOf(true, 2999, 2) })
}

func TestVmOkOfFunctions(t *testing.T) {
	wantVmTurned(t, "no functions", false, func(m *impl.Vm) { m.Funs = nil })
	wantVmTurned(t, "a first function that keeps something", false, func(m *impl.Vm) { m.Funs[0].Free = 1 })
	wantVmTurned(t, "a function without places", false, func(m *impl.Vm) { m.Funs[1].List = nil })
	wantVmTurned(t, "a place of no Code", false, func(m *impl.Vm) { m.Funs[1].List[0].Code = 22 })
	wantVmTurned(t, "a place that leads nowhere", false, func(m *impl.Vm) { m.Funs[2].List[2].N = 3 })
	wantVmTurned(t, "a function without an end", false, func(m *impl.Vm) { m.Funs[0].List[2] = oneOp() })
	wantVmTurned(t, "61 functions", false, func(m *impl.Vm) { m.Funs = append(m.Funs, manyFuns(58)...) })
	wantVmTurned(t, "60 functions", true, func(m *impl.Vm) {
		m.Funs = append(m.Funs, slices.Repeat([]impl.Fun{aFunction(20, retOp())}, 57)...)
	})
}

func TestVmOkOfHeaps(t *testing.T) {
	for _, h := range wrongHeaps() {
		wantVmTurned(t, "a heap that is not right", false, func(m *impl.Vm) { m.Heap, m.Stack = h, []int{1, 1, 1, 1, 1, 1, 1, 1, 1} })
	}
	wantVmTurned(t, "the zero heap", false, func(m *impl.Vm) { m.Heap, m.Stack = impl.Heap{}, []int{1, 1, 1, 1, 1, 1, 1, 1, 1} })
	wantVmTurned(t, "a kid within a block", false, func(m *impl.Vm) { m.Heap.Words[m.Heap.Base+6] += 2 })
	wantVmTurned(t, "other words elsewhere", true, func(m *impl.Vm) { fillElsewhere(m.Heap, 4) })
}

func TestVmOkOfTheStack(t *testing.T) {
	for at := range someVm(false).Stack {
		for _, n := range []int{least, greatest, 0, 1, -1} {
			wantVmTurned(t, "an int on the stack", true, func(m *impl.Vm) { m.Stack[at] = intOf(n) })
		}
		for _, w := range []int{intOf(greatest + 1), intOf(least - 1), math.MaxInt, math.MinInt + 1, 1<<32 + 1} {
			wantVmTurned(t, "an int word of no word", false, func(m *impl.Vm) { m.Stack[at] = w })
		}
		for behind := -3; behind <= 45; behind++ {
			is := slices.Contains([]int{0, 3, 4, 7}, behind)
			wantVmTurned(t, "a place on the stack", is, func(m *impl.Vm) { m.Stack[at] = refOf(m.Heap.Base + behind) })
		}
		wantVmTurned(t, "a place of the other half", false, func(m *impl.Vm) { m.Stack[at] = refOf(20 - m.Heap.Base) })
		for _, w := range []int{math.MinInt, math.MaxInt - 1, -2, 1 << 40} {
			wantVmTurned(t, "a place of no block", false, func(m *impl.Vm) { m.Stack[at] = w })
		}
	}
	for _, many := range []int{9, 10, 120, 598, 599, 600, 601, 602, 1000, 100000} {
		wantVmTurned(t, "many words", many <= stackMost, func(m *impl.Vm) {
			m.Stack = append(m.Stack, slices.Repeat([]int{m.Stack[5]}, many-len(m.Stack))...)
		})
	}
}

// manyCalls are so many, of function 0, each of which has its argument two words further on.
func manyCalls(many int) []impl.Call {
	var calls []impl.Call
	for i := range many {
		calls = append(calls, impl.Call{Base: 1 + 2*i})
	}
	return calls
}

func TestVmOkOfHowManyCalls(t *testing.T) {
	for _, many := range []int{0, 1, 2, 119, 120, 121, 122, 299} {
		wantVmTurned(t, "many calls", many <= callsMost, func(m *impl.Vm) {
			if many == 0 && m.Code == impl.VmGo {
				m.Code = impl.VmHalt
			}
			m.Stack = slices.Repeat([]int{1}, 600)
			m.Calls = manyCalls(many)
		})
	}
	for code := -1; code <= 6; code++ {
		for _, stack := range [][]int{nil, {1}, {intOf(5)}, slices.Repeat([]int{1}, 600)} {
			m := someVm(true)
			m.Calls, m.Stack, m.Code = nil, stack, code
			wantVmOk(t, "no calls", m, 1 <= code && code <= 5)
		}
	}
}

func TestVmOkOfCalls(t *testing.T) {
	for i := range 3 {
		long := []int{3, 4, 3}
		for _, n := range []int{math.MinInt, -1, 3, 4, 60, math.MaxInt} {
			wantVmTurned(t, "a call of no function", false, func(m *impl.Vm) { m.Calls[i].Fun, m.Calls[i].Pc = n, 0 })
		}
		for fun := range 3 {
			for _, n := range []int{math.MinInt, -2, -1, 0, 1, 2, 3, 4, 5, 3000, math.MaxInt} {
				is := 0 <= n && n < long[fun]
				wantVmTurned(t, "a call at some place", is, func(m *impl.Vm) { m.Calls[i].Fun, m.Calls[i].Pc = fun, n })
			}
		}
		for _, n := range []int{math.MinInt, -7, -1, 0, 9, 10, 600, math.MaxInt} {
			wantVmTurned(t, "a Base that is nowhere", false, func(m *impl.Vm) { m.Calls[i].Base = n })
			wantVmTurned(t, "the only Base is nowhere", false, func(m *impl.Vm) { m.Calls = m.Calls[i : i+1]; m.Calls[0].Base = n })
		}
		for n := 1; n < 9; n++ {
			wantVmTurned(t, "the only Base", true, func(m *impl.Vm) { m.Calls = m.Calls[i : i+1]; m.Calls[0].Base = n })
		}
	}
	for a := range 11 {
		for b := range 11 {
			for c := range 11 {
				is := 1 <= a && a < b && b < c && c < 9
				m := someVm(a%2 == 0)
				m.Calls[0].Base, m.Calls[1].Base, m.Calls[2].Base = a, b, c
				wantVmOk(t, "three Bases", m, is)
			}
		}
	}
	wantVmTurned(t, "Bases alike", false, func(m *impl.Vm) { m.Calls[1].Base = m.Calls[0].Base })
	wantVmTurned(t, "Bases alike at the end", false, func(m *impl.Vm) { m.Calls[1].Base = m.Calls[2].Base })
	wantVmTurned(t, "Bases that come down", false, func(m *impl.Vm) { m.Calls[1].Base, m.Calls[2].Base = 7, 3 })
	wantVmTurned(t, "a stack that ends at the argument", true, func(m *impl.Vm) { m.Stack = m.Stack[:8] })
	wantVmTurned(t, "a stack that ends ahead of it", false, func(m *impl.Vm) { m.Stack = m.Stack[:7] })
	wantVmTurned(t, "no stack", false, func(m *impl.Vm) { m.Stack = nil })
}

func TestVmOkOfOutAndCode(t *testing.T) {
	for i := range 2 {
		for _, n := range []int{least, greatest, 0, -1, 2} {
			wantVmTurned(t, "a word in Out", true, func(m *impl.Vm) { m.Out[i] = n })
		}
		for _, n := range []int{least - 1, greatest + 1, math.MinInt, math.MaxInt, 1 << 31, 1 << 32} {
			wantVmTurned(t, "no word in Out", false, func(m *impl.Vm) { m.Out[i] = n })
		}
	}
	wantVmTurned(t, "much in Out", true, func(m *impl.Vm) { m.Out = slices.Repeat([]int{least, greatest}, 50000) })
	for _, code := range []int{math.MinInt, -2, -1, 6, 7, 1 << 32, math.MaxInt} {
		wantVmTurned(t, "a Code that is none", false, func(m *impl.Vm) { m.Code = code })
	}
	wantVmOk(t, "zero", impl.Vm{}, false)
	wantVmOk(t, "zero of code -1", impl.Vm{Code: -1}, false)
	for code := 1; code <= 5; code++ {
		wantVmOk(t, "zero with a code", impl.Vm{Code: code}, false)
	}
}

func wantVmNew(t *testing.T, list []impl.Fun, half int, want bool) {
	t.Helper()
	for _, each := range []bool{false, true} {
		m, ok := impl.VmNew(list, half, each)
		if ok != want {
			t.Errorf("VmNew(%.300s, %d, %v) is %v", toldFuns(list), half, each, ok)
		}
		if !ok {
			if !sameVm(m, impl.Vm{}) {
				t.Errorf("VmNew(%.300s, %d, %v) is false and %s", toldFuns(list), half, each, toldVm(m))
			}
			continue
		}
		right := impl.Vm{Funs: list, Heap: impl.Heap{Words: make([]int, 2*half), Half: half}, Stack: []int{1, 1}, Calls: []impl.Call{{Fun: 0, Pc: 0, Base: 1}}, Each: each}
		if !sameVm(m, right) || len(m.Out) > 0 {
			t.Errorf("VmNew(%.300s, %d, %v) is %s", toldFuns(list), half, each, toldVm(m))
		}
		wantVmOk(t, "new", m, true)
	}
}

func TestVmNewOfHalves(t *testing.T) {
	list := []impl.Fun{aFunction(0, opsOf("num 1, ret")...)}
	for _, half := range append(edgeNumbers(), 1, 2, 3, 10, 100, 2999, 3000, 3001, 6000) {
		wantVmNew(t, list, half, 1 <= half && half <= halfMost)
		wantVmNew(t, nil, half, false)
	}
}

func TestVmNewOfFunctions(t *testing.T) {
	wantVmNew(t, nil, 10, false)
	wantVmNew(t, []impl.Fun{}, 10, false)
	wantVmNew(t, []impl.Fun{{}}, 10, false)
	right, lacking := opsOf("local 0, ret"), opsOf("local 1, ret")
	for many := 1; many <= blocksMost+1; many++ {
		list := slices.Repeat([]impl.Fun{aFunction(0, right...)}, many)
		wantVmNew(t, list, 10, many <= blocksMost)
		for _, i := range []int{0, many / 2, many - 1} {
			// What is right and not verified makes no Vm, though a Vm with it is right.
			for _, places := range [][]impl.Op{lacking, opsOf("ret"), opsOf("add, ret"), opsOf("num 1, jump 0"), opsOf("num 1, num 2, ret"), nil, opsOf("num 1"), {anOp(22, 0, 0), retOp()}} {
				list[i].List = places
				wantVmNew(t, list, 10, false)
				list[i].List = right
			}
			list[i].Free = 21
			wantVmNew(t, list, 10, false)
			list[i].Free = 0
		}
	}
	wantVmNew(t, []impl.Fun{aFunction(1, right...)}, 10, false)
	wantVmNew(t, []impl.Fun{aFunction(0, right...), aFunction(20, right...)}, 10, true)
	wantVmNew(t, []impl.Fun{aFunction(0, opsOf("fail")...)}, 1, true)
	s := steps(191)
	met := map[bool]int{}
	for i := range 2000 {
		list := s.steadyFuns(1+i%4, 1+i%20)
		for range i % 3 {
			s.turnFuns(list)
		}
		verified := impl.Verify(list)
		wantVmNew(t, list, 1+s.below(40), verified)
		met[verified]++
	}
	if met[true] < 700 || met[false] < 500 {
		t.Errorf("functions are verified %v times", met)
	}
}
