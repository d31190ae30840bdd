package impl

import (
	"slices"
	"testing"
)

// Each Code has what it does in the table, but for the one that is never done.
func TestOpsAtWork(t *testing.T) {
	ops := opsAtWork()
	for code := range len(ops) {
		if (ops[code] != nil) != (BcNum <= code && code <= BcSlide) {
			t.Errorf("code %d is there: %v", code, ops[code] != nil)
		}
	}
	if len(ops) != BcFail {
		t.Errorf("there are %d", len(ops))
	}
}

// machineOf is at the beginning of one function, with these words behind the argument, in a heap that is full: two words are held, two are not.
func machineOf(t *testing.T, places []Op, words ...int) *machine {
	t.Helper()
	m, ok := VmNew([]Fun{{List: []Op{{Code: BcFail}}}, {Free: 1, List: places}}, 4, false)
	if !ok {
		t.Fatalf("%v is not verified", places)
	}
	m.Heap, _, _ = Alloc(m.Heap, false, 8, []int{IntWord(3)})
	m.Heap, _, _ = Alloc(m.Heap, false, 9, []int{IntWord(4)})
	m.Calls[0].Fun = 1
	m.Stack = append(m.Stack, words...)
	if !VmOk(m) {
		t.Fatalf("%v is not right", m)
	}
	w := machine{Vm: copiedVm(m), ops: opsAtWork()}
	w.held, _ = hold(w.Heap)
	return &w
}

// What is not readied leaves all as it was; the heap is moved, and unlocked, only where there is room then.
func TestReadied(t *testing.T) {
	con := func(kids int) Op { return Op{Code: BcCon, N: 5, M: kids} }
	for _, c := range []struct {
		o           Op
		code, moved int
	}{
		{con(0), VmGo, 1}, {con(1), VmGo, 1}, {con(2), VmRoom, 0}, {con(3), VmRoom, 0}, {con(4), VmFault, 0}, {Op{Code: BcClos, N: 1, M: 1}, VmGo, 1},
		{Op{Code: BcAdd}, VmFault, 0}, {Op{Code: BcPut}, VmGo, 0}, {Op{Code: BcFail}, VmFail, 0}, {Op{Code: BcCall}, VmFault, 0}, {Op{Code: BcJump}, VmGo, 0},
	} {
		m := machineOf(t, []Op{{Code: BcFail}}, RefWord(2), RefWord(2), IntWord(7))
		stack, words := slices.Clone(m.Stack), slices.Clone(m.held.words)
		if code := m.readied(c.o); code != c.code || int(m.held.moved.Load()) != c.moved {
			t.Errorf("%v is readied as %d, and the heap moved %d times", c.o, code, m.held.moved.Load())
		}
		if m.Code != VmGo || m.last().Pc != 0 || c.moved == 0 && (!slices.Equal(m.Stack, stack) || !slices.Equal(m.held.words, words)) {
			t.Errorf("behind %v it is %v and %v", c.o, m.Vm, m.held.words)
		}
		if !m.held.lock.TryLock() {
			t.Fatalf("behind %v it is locked", c.o)
		}
		m.held.lock.Unlock()
	}
}

// Whether there is room is known ahead of moving; the stack is turned with the heap.
func TestMakeRoom(t *testing.T) {
	for size := range 6 {
		for _, each := range []bool{false, true} {
			m := machineOf(t, []Op{{Code: BcFail}}, RefWord(2), IntWord(1), RefWord(2))
			m.Each = each
			want, moved := size <= 2, 0
			if want && (each || size > 0) {
				moved = 1
			}
			if got := m.makeRoom(size); got != want || int(m.held.moved.Load()) != moved || m.Stack[2] != RefWord(2+2*moved) {
				t.Errorf("%d words, each %v: %v, moved %d times, %v", size, each, got, m.held.moved.Load(), m.Stack)
			}
		}
	}
}

// The machine is right behind each step, since that is asked only ahead of the first one.
func TestMachineStepByStep(t *testing.T) {
	places := []Op{{Code: BcNum, N: 7}, {Code: BcCon, N: 3, M: 1}, {Code: BcClos, N: 1, M: 1}, {Code: BcLocal}, {Code: BcPut}, {Code: BcCall}, {Code: BcRet}}
	m := machineOf(t, places)
	for m.Code == VmGo {
		m.step()
		now := m.Vm
		now.Heap = m.held.heap()
		if !VmOk(now) {
			t.Fatalf("behind %d words of Out it is %v", len(m.Out), now)
		}
	}
	// The con and the closure fill the half, so that the second call makes none.
	if m.Code != VmRoom || !slices.Equal(m.Out, []int{0}) || len(m.Calls) != 2 {
		t.Errorf("it ends with %v", m.Vm)
	}
}

func TestReckoned(t *testing.T) {
	for _, c := range []struct{ code, a, b, want int }{
		{BcAdd, 2, 3, 5}, {BcSub, 2, 3, -1}, {BcMul, 2, 3, 6}, {BcLess, 2, 3, 1}, {BcLess, 3, 3, 0}, {BcLess, 4, 3, 0}, {BcSame, 2, 3, 0}, {BcSame, 3, 3, 1},
		{BcAdd, greatestWord, 1, leastWord}, {BcSub, leastWord, 1, greatestWord}, {BcSub, 0, leastWord, leastWord}, {BcMul, leastWord, leastWord, 0}, {BcMul, leastWord, -1, leastWord},
	} {
		if got := reckoned(c.code, c.a, c.b); got != c.want {
			t.Errorf("of %d, %d and %d it is %d, not %d", c.code, c.a, c.b, got, c.want)
		}
	}
}
