package tests

import (
	"fmt"
	"slices"
	"testing"

	"loop.example/g00323/impl"
)

// workHeap is a heap of blocks of small tags, whose kids may be any of them.
func (s *steps) workHeap(most int) impl.Heap {
	half := 1 + s.below(most)
	var list []aBlock
	for left := s.below(half + 1); left > 0; {
		b := aBlock{fun: s.below(2) == 0, tag: s.below(5), kids: make([]int, min(left-1, s.below(4)))}
		list = append(list, b)
		left -= 1 + len(b.kids)
	}
	h, places := heapOf(half, s.below(2) == 0, list...)
	for i, b := range list {
		for k := range b.kids {
			h.Words[places[i]+1+k] = s.workWord(places)
		}
	}
	fillElsewhere(h, s.below(9)-4)
	return h
}

func (s *steps) workWord(places []int) int {
	if len(places) > 0 && s.below(2) == 0 {
		return refOf(places[s.below(len(places))])
	}
	return intOf([]int{0, 0, 1, 1, 2, 3, -1, 7, least, greatest}[s.below(10)])
}

// randomVm is right, and may do anything: what it finds need not be what it wants.
func (s *steps) randomVm(funs []impl.Fun, most int) impl.Vm {
	m := impl.Vm{Funs: funs, Heap: s.workHeap(most), Each: s.below(2) == 0}
	blocks, _ := blocksBy(m.Heap)
	var places []int
	for p := range blocks {
		places = append(places, p)
	}
	slices.Sort(places)
	base := 0
	for range 1 + s.below(4) {
		base += 1 + s.below(3)
		fun := s.below(len(funs))
		m.Calls = append(m.Calls, impl.Call{Fun: fun, Pc: s.below(len(funs[fun].List)), Base: base})
	}
	for range base + 1 + s.below(5) {
		m.Stack = append(m.Stack, s.workWord(places))
	}
	for range s.below(3) {
		m.Out = append(m.Out, s.below(9)-4)
	}
	if s.below(30) == 0 {
		m.Code = s.below(6)
	}
	return m
}

// livelyVm is one of a few, more often one whose next place is done and is no jump.
func (s *steps) livelyVm(i int) impl.Vm {
	m := s.randomVm(s.randomFuns(i), 1+i%40)
	for range i % 6 {
		if m.Code == impl.VmGo && stepBy(m).Code < impl.VmRoom && sceneOf(m).name != "jump" {
			break
		}
		m = s.randomVm(s.randomFuns(i), 1+i%40)
	}
	return m
}

// turnVm changes a Vm at one spot; it may stay right.
func (s *steps) turnVm(m *impl.Vm) {
	at, call := s.below(len(m.Stack)), &m.Calls[s.below(len(m.Calls))]
	small := s.below(7) - 3
	switch s.below(12) {
	case 0:
		s.turnFuns(m.Funs)
	case 1:
		s.turnHeap(&m.Heap)
	case 2:
		m.Stack[at] += small
	case 3:
		m.Stack[at] = someNumber(s)
	case 4:
		m.Stack = m.Stack[:at]
	case 5:
		call.Fun += small
	case 6:
		call.Pc += small
	case 7:
		call.Base += small
	case 8:
		m.Calls = slices.Insert(m.Calls, 0, *call)
	case 9:
		m.Out = append(m.Out, someNumber(s))
	case 10:
		m.Code = s.below(9) - 2
	default:
		m.Stack = append(m.Stack, slices.Repeat([]int{m.Stack[at]}, s.below(700))...)
	}
}

// randomFuns are verified, or only right; tags and fields are small, most of them.
func (s *steps) randomFuns(i int) []impl.Fun {
	list := s.steadyFuns(1+i%4, 1+i%20)
	if i%3 == 0 {
		list = s.rightFuns(1 + i%9)
	}
	for _, f := range list {
		for at, o := range f.List {
			switch name := codeName(o.Code); {
			case s.below(4) == 0:
			case name == "con" || name == "iscon":
				f.List[at].N = s.below(5)
			case name == "field":
				f.List[at].N = s.below(2)
			}
		}
	}
	return list
}

func TestStepsOfRandomVms(t *testing.T) {
	s := steps(196)
	codes, done := map[int]int{}, map[string]int{}
	for i := range 30000 {
		m := s.livelyVm(i)
		if !impl.VmOk(m) {
			t.Fatalf("%s is not right", toldVm(m))
		}
		all := holdSteps(t, m, 8)
		for k, now := range all {
			codes[now.Code]++
			if k+1 < len(all) && all[k+1].Code < impl.VmRoom && now.Code == impl.VmGo {
				done[sceneOf(now).name]++
			}
		}
	}
	if codes[impl.VmGo] < 50000 || codes[impl.VmHalt] < 800 || codes[impl.VmRoom] < 500 || codes[impl.VmFail] < 1500 || codes[impl.VmFault] < 8000 {
		t.Errorf("the codes are %v", codes)
	}
	for _, name := range codeNames {
		if done[name] < 50 && name != "fail" {
			t.Errorf("only %d times %s is done", done[name], name)
		}
	}
}

func TestStepsOfTurnedVms(t *testing.T) {
	s := steps(197)
	met := map[bool]int{}
	for i := range 12000 {
		m := s.randomVm(s.randomFuns(i), 1+i%40)
		for range 1 + i%2 {
			if len(m.Stack) > 0 && len(m.Calls) > 0 && len(m.Funs) > 0 {
				s.turnVm(&m)
			}
		}
		met[vmOkBy(m)]++
		holdStep(t, m)
	}
	if met[true] < 3000 || met[false] < 5000 {
		t.Errorf("what is turned is right %v times", met)
	}
}

// All functions of up to four places, run from their beginning.
func TestVmOfAllSmallFuns(t *testing.T) {
	codes := map[int]int{}
	for many := 2; many <= 4; many++ {
		all := append(opsOf("num 1, con 2 0, con 2 1, local 1, add, slide, ret, fail"), anOp(impl.BcZero, many-1, 0), anOp(impl.BcIsCon, 2, 0), anOp(impl.BcJump, 0, 0))
		total := 1
		for range many {
			total *= len(all)
		}
		for number := range total {
			places := make([]impl.Op, many)
			for at := range places {
				places[at] = all[number%len(all)]
				number /= len(all)
			}
			m, ok := impl.VmNew([]impl.Fun{aFunction(0, places...)}, 1+number%3, false)
			if !ok {
				continue
			}
			run := holdSteps(t, m, 9)
			codes[run[len(run)-1].Code]++
		}
	}
	for code, least := range map[int]int{impl.VmGo: 100, impl.VmHalt: 20, impl.VmRoom: 20, impl.VmFail: 100, impl.VmFault: 5} {
		if codes[code] < least {
			t.Errorf("the codes are %v", codes)
		}
	}
}

// What is verified never lacks a value: it is a fault only where a word is of another kind.
func TestFaultsOfVerifiedFuns(t *testing.T) {
	s := steps(198)
	faults := map[string]int{}
	for i := range 4000 {
		funs := s.steadyFuns(1+i%4, 1+i%30)
		m, ok := impl.VmNew(funs, 1+s.below(40), i%2 == 0)
		if !ok {
			t.Fatalf("there is none of %.500s", funsText(funs))
		}
		if m = impl.VmRun(m, 100); m.Code != impl.VmFault {
			continue
		}
		scene := sceneOf(m)
		if scene.lacks || scene.name == "ret" || scene.name == "local" || wantedKinds[scene.name] == nil && scene.name != "free" {
			t.Fatalf("%s is a fault: %s", scene.name, toldVm(m))
		}
		faults[scene.name]++
	}
	if faults["add"] < 20 || faults["field"] < 20 || faults["call"] < 20 {
		t.Errorf("faults are %v", faults)
	}
}

func vmWithRoom(m impl.Vm) impl.Vm {
	return impl.Vm{
		Funs: funsWithRoom(m.Funs), Heap: heapWithRoom(m.Heap), Stack: roomBehind(m.Stack, 77), Calls: roomBehind(m.Calls, impl.Call{Fun: 77, Pc: 7, Base: 7}),
		Out: roomBehind(m.Out, 77), Code: m.Code, Each: m.Each,
	}
}

func toldVmWithRoom(m impl.Vm) string {
	h := m.Heap
	return fmt.Sprint(toldFunsWithRoom(m.Funs), h.Words[:cap(h.Words)], h.Half, h.Base, h.Next, m.Stack[:cap(m.Stack)], m.Calls[:cap(m.Calls)], m.Out[:cap(m.Out)], m.Code, m.Each)
}

func addVm(own *pieces, m impl.Vm) {
	addFuns(own, m.Funs)
	addList(own, m.Heap.Words)
	addList(own, m.Stack)
	addList(own, m.Calls)
	addList(own, m.Out)
}

func spoilVm(m impl.Vm) {
	spoilFuns(m.Funs)
	for _, list := range [][]int{m.Heap.Words, m.Stack, m.Out} {
		for i := range list[:cap(list)] {
			list[:cap(list)][i] = 99
		}
	}
	for i := range m.Calls[:cap(m.Calls)] {
		m.Calls[:cap(m.Calls)][i] = impl.Call{Fun: 99, Pc: 9, Base: 9}
	}
}

// holdVmMemory holds that a Vm is not written into, nor the room behind its lists, and that what is answered is new, each list of it by itself.
func holdVmMemory(t *testing.T, m impl.Vm) bool {
	t.Helper()
	m = vmWithRoom(m)
	kept := toldVmWithRoom(m)
	is := impl.VmOk(m)
	runs := []int{-1, 0, 1, 2, 9}
	var own pieces
	addVm(&own, m)
	var answers, wants []impl.Vm
	for range 2 {
		answers = append(answers, impl.VmStep(m))
		for _, n := range runs {
			answers = append(answers, impl.VmRun(m, n))
		}
	}
	for _, a := range answers {
		addVm(&own, a)
		wants = append(wants, copyVm(a))
	}
	if own.overlap() {
		t.Fatalf("what is answered of %s shares memory", toldVm(m))
	}
	for i, a := range answers[:1+len(runs)] {
		spoilVm(a)
		if other := 1 + len(runs) + i; !sameVm(answers[other], wants[i]) {
			t.Fatalf("asked again, %s is told otherwise", toldVm(m))
		}
	}
	if toldVmWithRoom(m) != kept || impl.VmOk(m) != is {
		t.Fatalf("%.1000s is written into", kept)
	}
	return is
}

func TestVmsAreNewMemory(t *testing.T) {
	s := steps(199)
	met := map[bool]int{}
	for i := range 3000 {
		m := s.randomVm(s.randomFuns(i), 1+i%30)
		if i%3 == 0 {
			s.turnVm(&m)
		}
		met[holdVmMemory(t, m)]++
	}
	if met[true] < 1800 || met[false] < 400 {
		t.Errorf("it is right and not %v times", met)
	}
	for code := -1; code <= 6; code++ {
		m := someVm(code%2 == 0)
		m.Code = code
		holdVmMemory(t, m)
	}
	holdVmMemory(t, impl.Vm{})
}

// Lists of a Vm may share memory with each other: each is read as it was, and what is answered has each by itself.
func TestVmsThatShareTheirLists(t *testing.T) {
	words := slices.Repeat([]int{1}, 12)
	places := opsOf("local 0, con 0 1, num 5, put, slide, ret")
	m := impl.Vm{
		Funs: []impl.Fun{{List: places}, {Free: 1, List: places}}, Heap: impl.Heap{Words: words, Half: 6}, Stack: words[:2], Out: words[:3],
		Calls: []impl.Call{{Base: 1}},
	}
	kept := toldVmWithRoom(m)
	holdSteps(t, m, 20)
	got := impl.VmRun(m, 20)
	var own pieces
	addVm(&own, got)
	addList(&own, words)
	addList(&own, places)
	if own.overlap() || toldVmWithRoom(m) != kept || got.Code != impl.VmHalt || !slices.Equal(got.Out, []int{1, 1, 1, 5}) {
		t.Errorf("%.500s is then %s", kept, toldVm(got))
	}
}

func TestVmNewIsNewMemory(t *testing.T) {
	s := steps(200)
	for i := range 1000 {
		funs := funsWithRoom(s.randomFuns(i))
		kept := toldFunsWithRoom(funs)
		one, ok := impl.VmNew(funs, 20, true)
		other, _ := impl.VmNew(funs, 20, true)
		want := copyVm(other)
		var own pieces
		addFuns(&own, funs)
		addVm(&own, one)
		addVm(&own, other)
		if own.overlap() {
			t.Fatalf("VmNew(%.500s) shares memory", toldFuns(funs))
		}
		spoilVm(one)
		if third, is := impl.VmNew(funs, 20, true); is != ok || toldFunsWithRoom(funs) != kept || !sameVm(other, want) || !sameVm(third, want) {
			t.Fatalf("asked again, VmNew(%.500s) is told otherwise", toldFuns(funs))
		}
	}
	// Two functions that share their places have places of their own each.
	places := opsOf("local 0, ret")
	m, _ := impl.VmNew([]impl.Fun{{List: places}, {Free: 2, List: places}}, 5, false)
	m.Funs[0].List[0].N = 9
	if places[0].N != 0 || m.Funs[1].List[0].N != 0 {
		t.Error("places are shared")
	}
}

// All are asked at once: what one is told hangs on none of the others.
func TestVmsAtOnce(t *testing.T) {
	m, _ := impl.VmNew(funsOf(t, closeProg("rec f n = if n then C (put n) (f (n - 1)) else E in f 9")), 60, true)
	want := impl.VmRun(m, stepsMost)
	if want.Code != impl.VmHalt || len(want.Out) != 9 {
		t.Fatalf("it is %s", toldVm(want))
	}
	done := make(chan bool)
	for range 8 {
		go func() {
			same := true
			for n := range 100 {
				same = same && sameVm(impl.VmRun(m, stepsMost), want) && sameVm(impl.VmRun(impl.VmRun(m, n), stepsMost), want) && impl.VmOk(m)
			}
			done <- same
		}()
	}
	for range 8 {
		if !<-done {
			t.Error("asked at once it is told otherwise")
		}
	}
}

// Great lists are answered, whatever they hold.
func TestGreatVms(t *testing.T) {
	const many = 2000000
	for what, turn := range map[string]func(m *impl.Vm){
		"functions": func(m *impl.Vm) { m.Funs = make([]impl.Fun, many) },
		"places":    func(m *impl.Vm) { m.Funs[1].List = slices.Repeat([]impl.Op{retOp()}, many) },
		"words":     func(m *impl.Vm) { m.Heap.Words = make([]int, many) },
		"stack":     func(m *impl.Vm) { m.Stack = slices.Repeat([]int{1}, many) },
		"calls":     func(m *impl.Vm) { m.Calls = manyCalls(many) },
		"no words":  func(m *impl.Vm) { m.Out = slices.Repeat([]int{1 << 40}, many) },
	} {
		m := someVm(false)
		turn(&m)
		quickly(t, "a great Vm of many "+what, func() {
			if impl.VmOk(m) || !sameVm(impl.VmStep(m), impl.Vm{}) || !sameVm(impl.VmRun(m, stepsMost), impl.Vm{}) || !sameVm(impl.VmRun(m, 0), m) {
				t.Errorf("a great Vm of many %s is right", what)
			}
		})
	}
	// There may be much in Out.
	m := someVm(false)
	m.Out = slices.Repeat([]int{least}, many)
	quickly(t, "a Vm that has told much", func() {
		if got := impl.VmStep(m); !impl.VmOk(m) || got.Code != impl.VmGo || len(got.Out) != many+1 {
			t.Error("much in Out is not right")
		}
	})
	quickly(t, "many functions", func() {
		if _, ok := impl.VmNew(make([]impl.Fun, many), 5, true); ok {
			t.Error("there is one of many functions")
		}
	})
}

// The longest run in the greatest heap, moved ahead of each block, ends.
func TestTheLongestRun(t *testing.T) {
	h, _ := impl.HeapNew(halfMost)
	p := 0
	for i := range 1000 {
		h.Words[h.Next], h.Words[h.Next+1] = headOf(i%2 == 0, i, 1), refOf(p)
		p = h.Next
		h.Next += 2
	}
	m, _ := impl.VmNew([]impl.Fun{aFunction(0, opsOf("con 0 0, isnum 0 0, jump 0")...)}, halfMost, true)
	m.Heap, m.Stack[0] = h, refOf(p)
	want := impl.Shape(h, m.Stack)
	quickly(t, "the longest run", func() {
		if got := impl.VmRun(m, stepsMost); got.Code != impl.VmGo || impl.Shape(got.Heap, got.Stack) != want || impl.Room(got.Heap) != halfMost-2001 {
			t.Errorf("it is %s", toldVm(got))
		}
	})
}
