package tests

import (
	"slices"
	"testing"

	"loop.example/g00323/impl"
)

// tightVm is about to make a block in a heap of that half, which holds two blocks that the stack has (of two words each, one of them above the other on the stack), two that nothing has, and so many words of room.
func tightVm(second bool, o impl.Op, room int, words func(from int) []int) impl.Vm {
	half := 8 + room
	from := 0
	if second {
		from = half
	}
	h, _ := heapOf(half, second, conBlock(9), conBlock(1, intOf(11)), conBlock(9, refOf(from)), conBlock(2, refOf(from+1)), conBlock(9))
	m := workVm(second, o, words(from)...)
	m.Heap = h
	m.Stack[3] = intOf(0)
	return m
}

// All numbers are written out: the heap is moved, the words that stand lower are roots too, and what is read for the block is read behind the move.
func TestStepOfABlockByHand(t *testing.T) {
	m := tightVm(false, opsOf("con 5 2")[0], 2, func(int) []int { return []int{refOf(5), intOf(3), refOf(1)} })
	m.Stack[2] = refOf(5)
	got := holdStep(t, m)
	// Of 10 words 8 are in use, and the block takes 3: at 10 stands what was at 5, at 12 what was at 1, and at 14 the block.
	want := copyVm(m)
	want.Heap = impl.Heap{Words: []int{
		0, 0, 0, 0, 0, 0, 0, 0, 0, 0,
		headOf(false, 2, 1), 24, headOf(false, 1, 1), 23, headOf(false, 5, 2), 7, 24, 0, 0, 0,
	}, Half: 10, Base: 10, Next: 17}
	want.Stack = []int{1, 1, 20, 1, intOf(40), 20, 28}
	want.Calls[1].Pc = 2
	if !sameVm(got, want) {
		t.Fatalf("it is moved to %s", toldVm(got))
	}
	// Where there is room it is not moved, and the block stands behind all.
	m = tightVm(false, opsOf("clos 2 1")[0], 2, func(int) []int { return []int{refOf(5), refOf(1)} })
	got = holdStep(t, m)
	want = copyVm(m)
	want.Heap.Words[8], want.Heap.Words[9], want.Heap.Next = headOf(true, 2, 1), 2, 10
	want.Stack = []int{1, 1, intOf(50), 1, intOf(40), 10, 16}
	want.Calls[1].Pc = 2
	if !sameVm(got, want) {
		t.Fatalf("it is %s", toldVm(got))
	}
	// But where it is moved ahead of each block.
	m.Each = true
	got = holdStep(t, m)
	want.Each = true
	want.Heap = impl.Heap{Words: []int{
		0, 0, 0, 0, 0, 0, 0, 0, 0, 0,
		headOf(false, 2, 1), 24, headOf(false, 1, 1), 23, headOf(true, 2, 1), 24, 0, 0, 0, 0,
	}, Half: 10, Base: 10, Next: 16}
	want.Stack = []int{1, 1, intOf(50), 1, intOf(40), 20, 28}
	if !sameVm(got, want) {
		t.Fatalf("each time it is moved to %s", toldVm(got))
	}
}

// With each number of kids, and each number of words of room, once the heap is as it is and once it is moved: what is held takes four words, what is not four more.
func TestStepOfBlocksAndRoom(t *testing.T) {
	met := map[string]int{}
	for kids := range keptMost + 1 {
		for _, second := range []bool{false, true} {
			for _, each := range []bool{false, true} {
				for room := range 26 {
					m := tightVm(second, anOp(impl.BcCon, 5, kids), room, func(from int) []int {
						return slices.Concat([]int{refOf(from + 5), refOf(from + 1)}, slices.Repeat([]int{refOf(from + 5)}, kids))
					})
					m.Each = each
					got := holdStep(t, m)
					isMoved := got.Heap.Base != m.Heap.Base
					switch {
					case room+4 < 1+kids:
						met["no room"]++
						want := copyVm(m)
						want.Code = impl.VmRoom
						if !sameVm(got, want) {
							t.Errorf("%d kids and %d words of room: %s", kids, room, toldVm(got))
						}
					case got.Code != impl.VmGo || isMoved != (each || room < 1+kids):
						t.Errorf("%d kids and %d words of room: moved %v, %s", kids, room, isMoved, toldVm(got))
					case isMoved:
						met["moved"]++
						wantRoom(t, got, room+4-1-kids)
					default:
						met["as it was"]++
						wantRoom(t, got, room-1-kids)
					}
				}
			}
		}
	}
	if met["no room"] < 500 || met["moved"] < 500 || met["as it was"] < 300 {
		t.Errorf("they are %v", met)
	}
}

func wantRoom(t *testing.T, m impl.Vm, want int) {
	t.Helper()
	if got := impl.Room(m.Heap); got != want {
		t.Errorf("room is %d, not %d in %s", got, want, toldHeap(m.Heap))
	}
}

// Of a function, its number is the tag; of a con the con's.
func TestStepOfBlocksAreThere(t *testing.T) {
	for text, want := range map[string]aBlock{
		"con 0 0": conBlock(0), "con 59 0": conBlock(59), "con 2 1": conBlock(2, intOf(3)), "con 1 3": conBlock(1, intOf(5), intOf(-5), intOf(3)),
		"clos 1 2": funBlock(1, intOf(-5), intOf(3)), "clos 2 1": funBlock(2, intOf(3)),
	} {
		for _, each := range []bool{false, true} {
			atPlace(text, func(from int, with func(words ...int) impl.Vm) {
				m := with(intOf(9), intOf(5), intOf(-5), intOf(3))
				m.Each = each
				got := holdStep(t, m)
				left := 9 - len(want.kids)
				if len(got.Stack) != left+1 || !slices.Equal(got.Stack[4:left], m.Stack[4:left]) || got.Calls[1].Pc != 2 {
					t.Fatalf("%s\nis then %s", toldVm(m), toldVm(got))
				}
				fun, tag, kids, ok := impl.BlockAt(got.Heap, impl.WordRef(got.Stack[left]))
				if !ok || !want.same(aBlock{fun, tag, kids}) {
					t.Errorf("%s makes %v %d %v: %v", text, fun, tag, kids, ok)
				}
			})
		}
	}
	// Kids are blocks, one of them twice, and one that is about to be moved.
	for _, each := range []bool{false, true} {
		atPlace("con 4 4", func(from int, with func(words ...int) impl.Vm) {
			m := with(refOf(from), refOf(from+4), refOf(from), intOf(6))
			m.Each = each
			got := holdStep(t, m)
			want := " 0 0 50 @0 40 @1\nfun 1 5 @2\ncon 4 @2 @0 @2 6\ncon 3 7 @3\ncon 0\n"
			if text := impl.Shape(got.Heap, got.Stack); text != want {
				t.Errorf("it is seen as %q", text)
			}
		})
	}
}

// What nothing on the stack has is gone; what stands lower on it, up to the first word, stays.
func TestStepMovesTheWholeStack(t *testing.T) {
	for at := range 5 {
		for _, each := range []bool{false, true} {
			m := tightVm(at%2 == 0, opsOf("con 5 2")[0], 2, func(int) []int { return []int{1, 3} })
			m.Each = each
			m.Stack[at] = refOf(m.Heap.Base + 5)
			ahead := impl.Shape(m.Heap, m.Stack[:5])
			got := holdStep(t, m)
			if got.Code != impl.VmGo || impl.Shape(got.Heap, got.Stack[:5]) != ahead || ahead == "" {
				t.Errorf("%s\nis then %s", toldVm(m), toldVm(got))
			}
			wantRoom(t, got, 10-4-3)
		}
	}
}

// There is no room: what is held, with what is taken for the block, is too much by one word. All is as it was, the heap too.
func TestStepWhereThereIsNoRoom(t *testing.T) {
	for _, second := range []bool{false, true} {
		for kids := range 6 {
			for _, other := range []int{0, 1, 77} {
				// The words take a block of two words each.
				var list []aBlock
				for i := range 6 {
					list = append(list, conBlock(i, intOf(i)))
				}
				for _, lacks := range []int{0, 1} {
					half := 12 + 1 + kids - lacks
					h, places := heapOf(half, second, list...)
					fillElsewhere(h, other)
					m := workVm(second, anOp(impl.BcCon, 8, kids))
					m.Stack[3] = 1
					for _, p := range places {
						m.Stack = append(m.Stack, refOf(p))
					}
					m.Heap = h
					if lacks > 0 {
						wantLeft(t, m, impl.VmRoom)
						continue
					}
					for _, m.Each = range []bool{false, true} {
						got := holdStep(t, m)
						if got.Code != impl.VmGo || (got.Heap.Base != h.Base) != m.Each {
							t.Errorf("%s\nis then %s", toldVm(m), toldVm(got))
						}
						wantRoom(t, got, 0)
					}
				}
			}
		}
	}
	// A half that is too small for any block of it.
	for kids := 1; kids <= keptMost; kids++ {
		for half := 1; half <= kids+1; half++ {
			m := workVm(false, anOp(impl.BcCon, 0, kids), slices.Repeat([]int{3}, kids)...)
			m.Stack[3] = 1
			m.Heap = emptyHeap(half, half%2 == 0)
			if half <= kids {
				wantLeft(t, m, impl.VmRoom)
			} else if got := holdStep(t, m); got.Code != impl.VmGo {
				t.Errorf("%d kids in a half of %d: %s", kids, half, toldVm(got))
			}
		}
	}
}

// What is no block is made without looking at room, and moves nothing.
func TestStepOfOthersMovesNothing(t *testing.T) {
	for _, text := range []string{"num 1", "local 0", "local 1", "free 0", "free 1", "self", "call", "ret", "field 0", "iscon 0 0", "isnum 0 0", "add", "sub", "mul", "less", "same", "put", "zero 0", "jump 0", "slide", "fail"} {
		movedBoth(8, func(second bool, from int) {
			h, _ := heapOf(8, second, conBlock(9), funBlock(1, intOf(5), intOf(6)), conBlock(9), conBlock(1, intOf(4)), conBlock(9))
			for _, words := range [][]int{nil, {3}, {3, 5}, {refOf(from + 5)}, {refOf(from + 1), 3}} {
				m := workVm(second, opsOf(text)[0], words...)
				m.Heap = h
				m.Stack[3] = refOf(from + 1)
				for _, m.Each = range []bool{false, true} {
					if got := holdStep(t, m); !sameHeap(got.Heap, h) || got.Code == impl.VmRoom {
						t.Errorf("%s\nis then %s", toldVm(m), toldVm(got))
					}
				}
			}
		})
	}
}

// highVm has so many words on the stack, the last ones of which are some, and so many calls, of which the last one is at a place of function 1.
func highVm(second bool, text string, calls, words int, last ...int) impl.Vm {
	m := workVm(second, opsOf(text)[0])
	itself := m.Stack[3]
	m.Stack = slices.Repeat([]int{intOf(6)}, words)
	copy(m.Stack[words-len(last):], last)
	m.Calls = manyCalls(calls)
	m.Calls[calls-1].Fun, m.Calls[calls-1].Pc = 1, 1
	m.Stack[m.Calls[calls-1].Base-1] = itself
	return m
}

func TestStepOfAFullStack(t *testing.T) {
	// One more word is put: there are 599 words and 600.
	for _, text := range []string{"num 7", "local 0", "local 3", "free 0", "free 1", "self", "con 4 0"} {
		movedBoth(40, func(second bool, from int) {
			for words := stackMost - 3; words <= stackMost; words++ {
				m := highVm(second, text, 5, words, refOf(from), 3)
				if words == stackMost {
					wantLeft(t, m, impl.VmDeep)
				} else if got := holdStep(t, m); got.Code != impl.VmGo || len(got.Stack) != words+1 {
					t.Errorf("%s of %d words: %s", text, words, toldVm(got))
				}
			}
		})
	}
	// As many or fewer.
	for text, words := range map[string]int{"con 4 1": 600, "con 4 2": 599, "clos 1 2": 599, "clos 2 1": 600, "put": 600, "add": 599, "slide": 599, "zero 0": 599, "isnum 0 0": 599, "iscon 0 0": 599, "jump 0": 600} {
		movedBoth(40, func(second bool, from int) {
			if got := holdStep(t, highVm(second, text, 5, stackMost, 5, 3)); got.Code != impl.VmGo || len(got.Stack) != words {
				t.Errorf("%s: %s", text, toldVm(got))
			}
		})
	}
	movedBoth(40, func(second bool, from int) {
		if got := holdStep(t, highVm(second, "field 0", 5, stackMost, refOf(from))); got.Code != impl.VmGo || len(got.Stack) != stackMost {
			t.Errorf("field: %s", toldVm(got))
		}
		if got := holdStep(t, highVm(second, "call", 5, stackMost, refOf(from+4), 3)); got.Code != impl.VmGo || len(got.Stack) != stackMost || got.Calls[5].Base != 599 {
			t.Errorf("call: %s", toldVm(got))
		}
		// A fault, and what fails, come ahead of a word too many; that comes ahead of room.
		wantLeft(t, highVm(second, "local 2999", 5, stackMost), impl.VmFault)
		wantLeft(t, highVm(second, "ret", 5, stackMost), impl.VmFault)
		wantLeft(t, highVm(second, "fail", 5, stackMost), impl.VmFail)
		m := highVm(second, "free 0", 5, stackMost)
		m.Stack[m.Calls[4].Base-1] = 1
		wantLeft(t, m, impl.VmFault)
		m = highVm(second, "con 4 0", 5, stackMost)
		m.Heap, m.Stack[m.Calls[4].Base-1] = heapAt(2, second, headOf(false, 0, 0), headOf(false, 0, 0)), 1
		wantLeft(t, m, impl.VmDeep)
	})
}

func TestStepOfManyCalls(t *testing.T) {
	movedBoth(40, func(second bool, from int) {
		for calls := callsMost - 3; calls <= callsMost; calls++ {
			for _, words := range []int{2*calls + 2, 400, stackMost} {
				m := highVm(second, "call", calls, words, refOf(from+7), 3)
				if calls == callsMost {
					wantLeft(t, m, impl.VmDeep)
				} else if got := holdStep(t, m); got.Code != impl.VmGo || len(got.Calls) != calls+1 || got.Calls[calls] != (impl.Call{Fun: 2, Base: words - 1}) {
					t.Errorf("of %d calls: %s", calls, toldVm(got))
				}
			}
		}
		// Whatever else is done with as many calls; a fault comes first.
		m := highVm(second, "call", callsMost, stackMost, refOf(from), 3)
		wantLeft(t, m, impl.VmFault)
		wantLeft(t, highVm(second, "call", callsMost, 2*callsMost+1, refOf(from+4)), impl.VmFault)
		if got := holdStep(t, highVm(second, "add", callsMost, stackMost, 3, 5)); got.Code != impl.VmGo {
			t.Errorf("add: %s", toldVm(got))
		}
		got := holdStep(t, highVm(second, "ret", callsMost, 2*callsMost+1, 5))
		if got.Code != impl.VmGo || len(got.Calls) != callsMost-1 || len(got.Stack) != 2*callsMost-1 {
			t.Errorf("ret: %s", toldVm(got))
		}
	})
}

// What is a fault, or too deep, moves nothing, and stands ahead of having no room.
func TestStepOfBlocksThatAreNotMade(t *testing.T) {
	for _, second := range []bool{false, true} {
		for _, room := range []int{0, 1, 9} {
			for text, words := range map[string]int{"con 0 1": 0, "con 0 2": 1, "con 0 20": 19, "clos 1 2": 1, "clos 2 1": 0} {
				wantLeft(t, tightVm(second, opsOf(text)[0], room, func(int) []int { return slices.Repeat([]int{3}, words) }), impl.VmFault)
			}
		}
	}
}
