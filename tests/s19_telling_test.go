package tests

import (
	"fmt"
	"slices"
	"testing"

	"loop.example/g00323/impl"
)

const (
	stackMost = 600
	callsMost = 120
	stepsMost = 60000
)

func TestVmNumbers(t *testing.T) {
	if impl.MaxStack != stackMost || impl.MaxCalls != callsMost || impl.MaxSteps != stepsMost {
		t.Error("a limit is another one")
	}
	for i, code := range []int{impl.VmGo, impl.VmHalt, impl.VmRoom, impl.VmDeep, impl.VmFail, impl.VmFault} {
		if code != i {
			t.Errorf("code %d is %d", i, code)
		}
	}
}

// A second telling of chapter 19. A Vm is taken apart at the argument; whether the words that a place takes are of the kinds that it wants is looked up, as is what it puts in their place.

// okCallBy is of a call by itself.
func okCallBy(m impl.Vm, c impl.Call) bool {
	if c.Fun < 0 || c.Fun >= len(m.Funs) || c.Pc < 0 || c.Pc >= len(m.Funs[c.Fun].List) {
		return false
	}
	return (span{1, len(m.Stack) - 1}).has(c.Base)
}

func vmOkBy(m impl.Vm) bool {
	_, is := rootsBy(m.Heap, m.Stack)
	if !is || !funsOkBy(m.Funs) {
		return false
	}
	last := 0
	for _, c := range m.Calls {
		is = is && okCallBy(m, c) && c.Base > last
		last = c.Base
	}
	for _, n := range m.Out {
		is = is && least <= n && n <= greatest
	}
	calls := span{0, callsMost}
	if m.Code == impl.VmGo {
		calls.from = 1
	}
	return is && len(m.Stack) <= stackMost && calls.has(len(m.Calls)) && (span{0, 5}).has(m.Code)
}

// A scene is what the next place finds: the words up to the argument, those behind it, and which of these it takes.
type scene struct {
	vm     impl.Vm
	blocks map[int]aBlock
	call   impl.Call
	op     impl.Op
	name   string
	below  []int
	left   []int
	taken  []int
	lacks  bool
}

func sceneOf(m impl.Vm) scene {
	s := scene{vm: m, call: m.Calls[len(m.Calls)-1]}
	s.blocks, _ = blocksBy(m.Heap)
	s.op = m.Funs[s.call.Fun].List[s.call.Pc]
	s.name = codeName(s.op.Code)
	s.below, s.left = m.Stack[:s.call.Base+1], m.Stack[s.call.Base+1:]
	takes, _ := takesAndPuts(s.op)
	if s.lacks = takes > len(s.left); !s.lacks {
		s.left, s.taken = s.left[:len(s.left)-takes], s.left[len(s.left)-takes:]
	}
	return s
}

// kind is that of a word: an int, a function's block, or a con's.
func (s scene) kind(w int) string {
	switch {
	case w%2 != 0:
		return "int"
	case s.blocks[w/2].fun:
		return "fun"
	}
	return "con"
}

func (s scene) blockAt(w int) aBlock { return s.blocks[w/2] }

// wantedKinds are those of the words that a place takes, the lowest one first.
var wantedKinds = map[string][]string{
	"add": {"int", "int"}, "sub": {"int", "int"}, "mul": {"int", "int"}, "less": {"int", "int"}, "same": {"int", "int"},
	"put": {"int"}, "zero": {"int"}, "field": {"con"}, "call": {"fun"},
}

func (s scene) isFault() bool {
	if s.lacks {
		return true
	}
	for i, kind := range wantedKinds[s.name] {
		if s.kind(s.taken[i]) != kind {
			return true
		}
	}
	switch s.name {
	case "local":
		return s.op.N > len(s.left)
	case "ret":
		return len(s.left) > 0
	case "free":
		return s.kind(s.itself()) != "fun" || s.op.N >= len(s.blockAt(s.itself()).kids)
	case "field":
		return s.op.N >= len(s.blockAt(s.taken[0]).kids)
	case "call":
		return s.blockAt(s.taken[0]).tag >= len(s.vm.Funs)
	}
	return false
}

func (s scene) itself() int { return s.below[len(s.below)-2] }

// puts are the words that come in place of those that are taken, where no block is made.
func (s scene) puts() []int {
	switch s.name {
	case "num":
		return []int{intOf(s.op.N)}
	case "local":
		return []int{slices.Concat(s.below[len(s.below)-1:], s.left)[s.op.N]}
	case "free":
		return []int{s.blockAt(s.itself()).kids[s.op.N]}
	case "self":
		return []int{s.itself()}
	case "field":
		return []int{s.blockAt(s.taken[0]).kids[s.op.N]}
	case "slide":
		return s.taken[1:]
	case "put", "call":
		return s.taken
	case "add", "sub", "mul", "less", "same":
		return []int{intOf(reckonedBy(s.op.Code-impl.BcAdd+impl.NdAdd, halfDown(s.taken[0]), halfDown(s.taken[1])))}
	}
	return nil
}

// goesOn is which place is next in this function.
func (s scene) goesOn() int {
	is := false
	switch s.name {
	case "jump":
		return s.op.N
	case "zero":
		if s.taken[0] == intOf(0) {
			return s.op.N
		}
		is = true
	case "iscon":
		is = s.kind(s.taken[0]) == "con" && s.blockAt(s.taken[0]).tag == s.op.N
	case "isnum":
		is = s.taken[0] == intOf(s.op.N)
	default:
		is = true
	}
	if !is {
		return s.op.M
	}
	return s.call.Pc + 1
}

// hindered is the code of what keeps the place from being done, but for room.
func (s scene) hindered() int {
	takes, puts := takesAndPuts(s.op)
	switch {
	case s.isFault():
		return impl.VmFault
	case s.name == "fail":
		return impl.VmFail
	case s.name == "call" && len(s.vm.Calls) >= callsMost:
		return impl.VmDeep
	case len(s.vm.Stack)+puts-takes > stackMost:
		return impl.VmDeep
	}
	return impl.VmGo
}

func (s scene) behind() impl.Vm {
	m := copyVm(s.vm)
	if m.Code = s.hindered(); m.Code != impl.VmGo {
		return m
	}
	top := len(m.Calls) - 1
	m.Calls[top].Pc = s.goesOn()
	switch s.name {
	case "clos", "con":
		return s.withBlock(m)
	case "ret":
		m.Calls = m.Calls[:top]
		m.Stack = append(s.below[:len(s.below)-2:len(s.below)-2], s.taken...)
		if top == 0 {
			m.Code = impl.VmHalt
		}
		return m
	case "call":
		m.Calls = append(m.Calls, impl.Call{Fun: s.blockAt(s.taken[0]).tag, Base: len(m.Stack) - 1})
	case "put":
		m.Out = append(m.Out, halfDown(s.taken[0]))
	}
	m.Stack = slices.Concat(s.below, s.left, s.puts())
	return m
}

// withBlock is the heap moved, where it is, and then the block.
func (s scene) withBlock(m impl.Vm) impl.Vm {
	if m.Each || roomBy(m.Heap) < 1+s.op.M {
		m.Heap, m.Stack = collectBy(m.Heap, m.Stack)
	}
	at := len(m.Stack) - s.op.M
	h, p, ok := allocBy(m.Heap, aBlock{s.name == "clos", s.op.N, m.Stack[at:]})
	if !ok {
		m = copyVm(s.vm)
		m.Code = impl.VmRoom
		return m
	}
	m.Heap, m.Stack = h, append(slices.Clone(m.Stack[:at]), refOf(p))
	return m
}

func stepBy(m impl.Vm) impl.Vm {
	if !vmOkBy(m) {
		return impl.Vm{}
	}
	if m.Code != impl.VmGo {
		return copyVm(m)
	}
	return sceneOf(m).behind()
}

func copyFuns(list []impl.Fun) []impl.Fun {
	var funs []impl.Fun
	for _, f := range list {
		funs = append(funs, impl.Fun{Free: f.Free, List: slices.Clone(f.List)})
	}
	return funs
}

func copyVm(m impl.Vm) impl.Vm {
	return impl.Vm{Funs: copyFuns(m.Funs), Heap: copyHeap(m.Heap), Stack: slices.Clone(m.Stack), Calls: slices.Clone(m.Calls), Out: slices.Clone(m.Out), Code: m.Code, Each: m.Each}
}

func sameVm(a, b impl.Vm) bool {
	same := sameFuns(a.Funs, b.Funs) && sameHeap(a.Heap, b.Heap) && slices.Equal(a.Stack, b.Stack) && slices.Equal(a.Out, b.Out)
	return same && slices.Equal(a.Calls, b.Calls) && a.Code == b.Code && a.Each == b.Each
}

func toldVm(m impl.Vm) string {
	return fmt.Sprintf("code %d each %v calls %.200s stack %.300s out %.100s heap %s funs %.500s", m.Code, m.Each, fmt.Sprint(m.Calls), fmt.Sprint(m.Stack), fmt.Sprint(m.Out), toldHeap(m.Heap), funsText(m.Funs))
}

// holdStep holds VmOk and VmStep against the second telling, and that what is right is so behind the step.
func holdStep(t *testing.T, m impl.Vm) impl.Vm {
	t.Helper()
	is := vmOkBy(m)
	if impl.VmOk(m) != is {
		t.Fatalf("VmOk is %v of %s", !is, toldVm(m))
	}
	got, want := impl.VmStep(m), stepBy(m)
	if !sameVm(got, want) {
		t.Fatalf("VmStep of %s\nis %s,\nnot %s", toldVm(m), toldVm(got), toldVm(want))
	}
	if impl.VmOk(got) != is {
		t.Fatalf("VmStep of %s\nis %s,\nof which VmOk is %v", toldVm(m), toldVm(got), !is)
	}
	return got
}

// holdSteps holds so many steps one by one, till it goes on no more, and VmRun of each number of them; it tells the Vm behind each.
func holdSteps(t *testing.T, m impl.Vm, many int) []impl.Vm {
	t.Helper()
	all := []impl.Vm{m}
	for now := m; len(all) <= many; {
		now = holdStep(t, now)
		all = append(all, now)
		if now.Code != impl.VmGo {
			break
		}
	}
	for n, want := range all {
		if got := impl.VmRun(m, n); !sameVm(got, want) {
			t.Fatalf("VmRun by %d of %s\nis %s,\nnot %s", n, toldVm(m), toldVm(got), toldVm(want))
		}
	}
	return all
}
