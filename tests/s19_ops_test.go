package tests

import (
	"slices"
	"testing"

	"loop.example/g00323/impl"
)

// workBlocks stand at 0, 3, 4, 7, 9 and 10 behind the first word; of function 7 there is none.
func workBlocks(second bool, from int) impl.Heap {
	h, _ := heapOf(40, second,
		conBlock(3, intOf(7), refOf(from+3)),
		conBlock(0),
		funBlock(1, intOf(5), refOf(from)),
		funBlock(2, intOf(6)),
		funBlock(7),
		funBlock(0),
	)
	return h
}

// workVm is in the second function, which was called by the first one with the argument 40; its second place is next. Behind the argument stand these words.
func workVm(second bool, o impl.Op, words ...int) impl.Vm {
	from := 0
	if second {
		from = 40
	}
	return impl.Vm{
		Funs: []impl.Fun{
			aFunction(0, opsOf("num 1, num 2, ret")...),
			aFunction(2, oneOp(), o, oneOp(), oneOp(), oneOp(), retOp()),
			aFunction(1, opsOf("local 0, ret")...),
		},
		Heap:  workBlocks(second, from),
		Stack: append([]int{1, 1, intOf(50), refOf(from + 4), intOf(40)}, words...),
		Calls: []impl.Call{{Fun: 0, Pc: 1, Base: 1}, {Fun: 1, Pc: 1, Base: 4}},
		Out:   []int{8},
	}
}

// wantBehind holds what stands behind the argument once a place is done, and which place is next.
func wantBehind(t *testing.T, m impl.Vm, words []int, pc int) {
	t.Helper()
	want := copyVm(m)
	want.Stack = append(want.Stack[:5], words...)
	want.Calls[1].Pc = pc
	if got := holdStep(t, m); !sameVm(got, want) {
		t.Errorf("%s\nis then %s,\nnot %s", toldVm(m), toldVm(got), toldVm(want))
	}
}

// wantLeft holds that all but the Code is left as it was.
func wantLeft(t *testing.T, m impl.Vm, code int) {
	t.Helper()
	for _, each := range []bool{false, true} {
		m.Each = each
		want := copyVm(m)
		want.Code = code
		if got := holdStep(t, m); !sameVm(got, want) {
			t.Errorf("%s\nis then %s, not of code %d", toldVm(m), toldVm(got), code)
		}
		for _, n := range []int{1, 2, 1000} {
			if got := impl.VmRun(m, n); !sameVm(got, want) {
				t.Errorf("%s\nis %s behind %d steps", toldVm(m), toldVm(got), n)
			}
		}
	}
}

// atPlace calls for a place by name, in both halves.
func atPlace(text string, ask func(from int, with func(words ...int) impl.Vm)) {
	movedBoth(40, func(second bool, from int) {
		ask(from, func(words ...int) impl.Vm { return workVm(second, opsOf(text)[0], words...) })
	})
}

// anyWords are one of each kind: ints, cons' blocks and functions'.
func anyWords(from int) []int {
	return []int{intOf(0), intOf(1), intOf(-1), intOf(greatest), intOf(least), refOf(from), refOf(from + 3), refOf(from + 4), refOf(from + 7), refOf(from + 9)}
}

func TestStepOfNumbers(t *testing.T) {
	for text, n := range map[string]int{"num 0": 0, "num 7": 7, "num -7": -7, "num 1073741823": greatest, "num -1073741824": least} {
		atPlace(text, func(from int, with func(words ...int) impl.Vm) {
			wantBehind(t, with(), []int{intOf(n)}, 2)
			wantBehind(t, with(refOf(from), 3), []int{refOf(from), 3, intOf(n)}, 2)
		})
	}
}

func TestStepOfLocals(t *testing.T) {
	for i, text := range []string{"local 0", "local 1", "local 2", "local 3", "local 4", "local 2999"} {
		atPlace(text, func(from int, with func(words ...int) impl.Vm) {
			words := []int{refOf(from + 7), intOf(-4), refOf(from)}
			for many := range len(words) + 1 {
				if i > many {
					wantLeft(t, with(words[:many]...), impl.VmFault)
					continue
				}
				want := slices.Concat([]int{intOf(40)}, words)[i]
				wantBehind(t, with(words[:many]...), append(slices.Clone(words[:many]), want), 2)
			}
		})
	}
}

func TestStepOfFrees(t *testing.T) {
	for i, text := range []string{"free 0", "free 1"} {
		atPlace(text, func(from int, with func(words ...int) impl.Vm) {
			wantBehind(t, with(), []int{[]int{intOf(5), refOf(from)}[i]}, 2)
			wantBehind(t, with(1, 3), []int{1, 3, []int{intOf(5), refOf(from)}[i]}, 2)
			// The function itself is another one, or none.
			m := with(3)
			m.Stack[3] = refOf(from + 7)
			if i == 0 {
				wantBehind(t, m, []int{3, intOf(6)}, 2)
			} else {
				wantLeft(t, m, impl.VmFault)
			}
			for _, w := range []int{intOf(0), intOf(from + 4), refOf(from), refOf(from + 3), refOf(from + 9), refOf(from + 10)} {
				m.Stack[3] = w
				wantLeft(t, m, impl.VmFault)
			}
		})
	}
}

// Whatever stands there is the function itself.
func TestStepOfItself(t *testing.T) {
	atPlace("self", func(from int, with func(words ...int) impl.Vm) {
		for _, w := range anyWords(from) {
			m := with(3)
			m.Stack[3] = w
			wantBehind(t, m, []int{3, w}, 2)
		}
		wantBehind(t, with(), []int{refOf(from + 4)}, 2)
	})
}

func TestStepOfReckonings(t *testing.T) {
	ints := []int{0, 1, 2, -1, -2, 7, -7, 46341, 1 << 29, -1 << 29, greatest, greatest - 1, least, least + 1}
	for _, name := range []string{"add", "sub", "mul", "less", "same"} {
		op := codeNamed(name) - impl.BcAdd + impl.NdAdd
		atPlace(name, func(from int, with func(words ...int) impl.Vm) {
			for _, a := range ints {
				for _, b := range ints {
					want := intOf(reckonedBy(op, a, b))
					wantBehind(t, with(intOf(a), intOf(b)), []int{want}, 2)
					wantBehind(t, with(refOf(from), 5, intOf(a), intOf(b)), []int{refOf(from), 5, want}, 2)
				}
			}
			wantLeft(t, with(), impl.VmFault)
			wantLeft(t, with(3), impl.VmFault)
			for _, w := range anyWords(from)[5:] {
				wantLeft(t, with(w, 3), impl.VmFault)
				wantLeft(t, with(3, w), impl.VmFault)
				wantLeft(t, with(w, w), impl.VmFault)
				wantLeft(t, with(3, 3, w), impl.VmFault)
				wantLeft(t, with(3, w, 3), impl.VmFault)
			}
		})
	}
	for name, want := range map[string][3]int{
		"add": {10, least, greatest}, "sub": {4, greatest - 1, least + 1}, "mul": {21, greatest, least}, "less": {0, 0, 1}, "same": {0, 0, 0},
	} {
		atPlace(name, func(_ int, with func(words ...int) impl.Vm) {
			wantBehind(t, with(intOf(7), intOf(3)), []int{intOf(want[0])}, 2)
			wantBehind(t, with(intOf(greatest), intOf(1)), []int{intOf(want[1])}, 2)
			wantBehind(t, with(intOf(least), intOf(-1)), []int{intOf(want[2])}, 2)
		})
	}
}

func TestStepOfPut(t *testing.T) {
	atPlace("put", func(from int, with func(words ...int) impl.Vm) {
		for _, n := range []int{0, 9, -9, greatest, least} {
			m := with(refOf(from), intOf(n))
			want := copyVm(m)
			want.Out, want.Calls[1].Pc = []int{8, n}, 2
			if got := holdStep(t, m); !sameVm(got, want) {
				t.Errorf("%d is told as %v by %s", n, got.Out, toldVm(got))
			}
		}
		wantLeft(t, with(), impl.VmFault)
		for _, w := range anyWords(from)[5:] {
			wantLeft(t, with(3, w), impl.VmFault)
		}
	})
}

func TestStepOfFields(t *testing.T) {
	for i, text := range []string{"field 0", "field 1", "field 2", "field 59"} {
		atPlace(text, func(from int, with func(words ...int) impl.Vm) {
			if i < 2 {
				want := []int{intOf(7), refOf(from + 3)}[i]
				wantBehind(t, with(refOf(from)), []int{want}, 2)
				wantBehind(t, with(3, 5, refOf(from)), []int{3, 5, want}, 2)
			} else {
				wantLeft(t, with(refOf(from)), impl.VmFault)
			}
			wantLeft(t, with(), impl.VmFault)
			// A con without kids, functions with some, and ints have none.
			for _, w := range append(anyWords(from)[6:], 1, intOf(from), intOf(-1)) {
				wantLeft(t, with(w), impl.VmFault)
				wantLeft(t, with(refOf(from), w), impl.VmFault)
			}
		})
	}
}

func TestStepOfForks(t *testing.T) {
	for text, is := range map[string]func(from, w int) bool{
		"iscon 3 4":           func(from, w int) bool { return w == refOf(from) },
		"iscon 0 4":           func(from, w int) bool { return w == refOf(from+3) },
		"iscon 1 4":           func(from, w int) bool { return false },
		"iscon 2 4":           func(from, w int) bool { return false },
		"iscon 7 4":           func(from, w int) bool { return false },
		"isnum 0 4":           func(from, w int) bool { return w == intOf(0) },
		"isnum 1 4":           func(from, w int) bool { return w == intOf(1) },
		"isnum -1 4":          func(from, w int) bool { return w == intOf(-1) },
		"isnum 2 4":           func(from, w int) bool { return false },
		"isnum 40 4":          func(from, w int) bool { return false },
		"isnum 1073741823 4":  func(from, w int) bool { return w == intOf(greatest) },
		"isnum -1073741824 4": func(from, w int) bool { return w == intOf(least) },
	} {
		atPlace(text, func(from int, with func(words ...int) impl.Vm) {
			for _, w := range append(anyWords(from), refOf(from+10)) {
				pc := map[bool]int{true: 2, false: 4}[is(from, w)]
				wantBehind(t, with(w), nil, pc)
				wantBehind(t, with(3, refOf(from), w), []int{3, refOf(from)}, pc)
			}
			wantLeft(t, with(), impl.VmFault)
		})
	}
	for _, to := range []string{"0", "1", "2", "5"} {
		pc := int(to[0] - '0')
		atPlace("iscon 5 "+to, func(from int, with func(words ...int) impl.Vm) { wantBehind(t, with(refOf(from)), nil, pc) })
		atPlace("isnum 5 "+to, func(from int, with func(words ...int) impl.Vm) { wantBehind(t, with(refOf(from)), nil, pc) })
		atPlace("zero "+to, func(from int, with func(words ...int) impl.Vm) {
			wantBehind(t, with(intOf(0)), nil, pc)
			wantBehind(t, with(5, refOf(from), intOf(0)), []int{5, refOf(from)}, pc)
			for _, n := range []int{1, -1, 2, greatest, least} {
				wantBehind(t, with(intOf(n)), nil, 2)
				wantBehind(t, with(1, intOf(n)), []int{1}, 2)
			}
			wantLeft(t, with(), impl.VmFault)
			// The place 0 is no int 0, and none of the others is.
			for _, w := range append(anyWords(from)[5:], refOf(from)) {
				wantLeft(t, with(w), impl.VmFault)
				wantLeft(t, with(1, w), impl.VmFault)
			}
		})
		atPlace("jump "+to, func(from int, with func(words ...int) impl.Vm) {
			wantBehind(t, with(), nil, pc)
			wantBehind(t, with(3, refOf(from)), []int{3, refOf(from)}, pc)
		})
	}
}

func TestStepOfSlideAndFail(t *testing.T) {
	atPlace("slide", func(from int, with func(words ...int) impl.Vm) {
		for _, a := range anyWords(from) {
			for _, b := range anyWords(from) {
				wantBehind(t, with(a, b), []int{b}, 2)
				wantBehind(t, with(5, a, b), []int{5, b}, 2)
			}
			// The argument stays.
			wantLeft(t, with(a), impl.VmFault)
		}
		wantLeft(t, with(), impl.VmFault)
	})
	atPlace("fail", func(from int, with func(words ...int) impl.Vm) {
		wantLeft(t, with(), impl.VmFail)
		wantLeft(t, with(anyWords(from)...), impl.VmFail)
	})
}

func TestStepOfCalls(t *testing.T) {
	atPlace("call", func(from int, with func(words ...int) impl.Vm) {
		for tag, w := range []int{refOf(from + 10), refOf(from + 4), refOf(from + 7)} {
			for _, argument := range anyWords(from) {
				for _, ahead := range [][]int{nil, {3}, {3, refOf(from), 5}} {
					m := with(append(slices.Clone(ahead), w, argument)...)
					want := copyVm(m)
					want.Calls[1].Pc = 2
					want.Calls = append(want.Calls, impl.Call{Fun: tag, Pc: 0, Base: 6 + len(ahead)})
					if got := holdStep(t, m); !sameVm(got, want) {
						t.Errorf("%s\nis then %s", toldVm(m), toldVm(got))
					}
				}
			}
		}
		// Cons' blocks, ints, and the function 7, which is none.
		for _, w := range append([]int{refOf(from), refOf(from + 3), refOf(from + 9), intOf(2)}, anyWords(from)[:5]...) {
			wantLeft(t, with(w, refOf(from+4)), impl.VmFault)
			wantLeft(t, with(refOf(from+4), w, 3), impl.VmFault)
		}
		wantLeft(t, with(), impl.VmFault)
		wantLeft(t, with(refOf(from+4)), impl.VmFault)
		// A function's block that keeps other than the function is called; what is not there is asked later.
		m := with(refOf(from+10), 3)
		m.Heap.Words[from+10] = headOf(true, 2, 0)
		if got := holdStep(t, m); got.Code != impl.VmGo || len(got.Calls) != 3 || got.Calls[2].Fun != 2 {
			t.Errorf("%s\nis then %s", toldVm(m), toldVm(got))
		}
	})
}

func TestStepOfRet(t *testing.T) {
	atPlace("ret", func(from int, with func(words ...int) impl.Vm) {
		for _, w := range anyWords(from) {
			m := with(w)
			want := copyVm(m)
			want.Stack = []int{1, 1, intOf(50), w}
			want.Calls = want.Calls[:1]
			if got := holdStep(t, m); !sameVm(got, want) {
				t.Errorf("%s\nis then %s", toldVm(m), toldVm(got))
			}
			// It was the first call.
			m.Calls = m.Calls[1:]
			want.Calls, want.Code = nil, impl.VmHalt
			if got := holdStep(t, m); !sameVm(got, want) {
				t.Errorf("%s\nis then %s", toldVm(m), toldVm(got))
			}
			m.Stack = m.Stack[3:]
			m.Calls[0].Base = 1
			want.Stack = []int{w}
			if got := holdStep(t, m); !sameVm(got, want) {
				t.Errorf("%s\nis then %s", toldVm(m), toldVm(got))
			}
		}
		wantLeft(t, with(), impl.VmFault)
		wantLeft(t, with(3, 5), impl.VmFault)
		wantLeft(t, with(3, 5, refOf(from)), impl.VmFault)
		m := with(3, 5)
		m.Calls = m.Calls[1:]
		wantLeft(t, m, impl.VmFault)
	})
}

// A place in the last call alone is done: the other calls' words are none of its own.
func TestStepOfWordsBehindTheArgument(t *testing.T) {
	for text, takes := range map[string]int{"call": 2, "ret": 1, "add": 2, "sub": 2, "mul": 2, "less": 2, "same": 2, "put": 1, "field 0": 1, "iscon 0 1": 1, "isnum 0 1": 1, "zero 1": 1, "slide": 2, "con 0 1": 1, "con 0 2": 2, "con 0 7": 7, "con 0 20": 20, "clos 1 2": 2, "clos 2 1": 1} {
		atPlace(text, func(from int, with func(words ...int) impl.Vm) {
			for many := range takes {
				for _, w := range anyWords(from) {
					m := with(slices.Repeat([]int{w}, many)...)
					m.Stack[4] = w
					wantLeft(t, m, impl.VmFault)
				}
			}
		})
	}
}

// What goes on no more is as it was, however many steps are asked for; what is not right is zero.
func TestStepOfWhatGoesOnNoMore(t *testing.T) {
	s := steps(192)
	for code := impl.VmHalt; code <= impl.VmFault; code++ {
		for _, second := range []bool{false, true} {
			for _, turn := range []func(m *impl.Vm){
				func(m *impl.Vm) {}, func(m *impl.Vm) { m.Each = true }, func(m *impl.Vm) { m.Calls = nil }, func(m *impl.Vm) { m.Calls, m.Stack, m.Out = nil, nil, nil },
			} {
				m := someVm(second)
				m.Code = code
				turn(&m)
				for _, n := range []int{-1, 0, 1, 2, 100, stepsMost, stepsMost + 1} {
					if got := impl.VmRun(m, n); !sameVm(got, m) || !sameVm(holdStep(t, m), m) {
						t.Fatalf("behind %d steps it is %s", n, toldVm(got))
					}
				}
				m.Stack = append(m.Stack, refOf(m.Heap.Next))
				for _, n := range []int{1, 2, 1 + s.below(100), stepsMost, stepsMost + 1} {
					if got := impl.VmRun(m, n); !sameVm(got, impl.Vm{}) || !sameVm(holdStep(t, m), impl.Vm{}) {
						t.Fatalf("what is not right is %s behind %d steps", toldVm(got), n)
					}
				}
			}
		}
	}
}
