package tests

import (
	"slices"
	"testing"

	"loop.example/g00323/impl"
)

// A second telling of chapter 22, by the second tellings of the chapters that it leans on.

// partsBy tells whether there is a place at which two lists tell unlike ints.
func partsBy(a, b []int) bool {
	for i, n := range a {
		if i < len(b) && b[i] != n {
			return true
		}
	}
	return false
}

// outcomeBy is the value's text, or empty.
func outcomeBy(list []impl.Data, m impl.Vm) string {
	if m.Code != impl.VmHalt || len(m.Stack) != 1 {
		return ""
	}
	v, is := backBy(list, m.Heap)(m.Stack[0])
	if !is {
		return ""
	}
	return valueTextBy(v)
}

// sameBy tells it of what the program means, so that one program may be held against many machines.
func sameBy(p impl.Prog, means impl.Result, m impl.Vm) bool {
	same := false
	switch means.Code {
	case impl.EvDone:
		same = outcomeBy(p.Datas, m) == valueTextBy(means.Value) && slices.Equal(m.Out, means.Out)
	case impl.EvFuel:
		same = !partsBy(means.Out, m.Out)
	}
	if m.Code != impl.VmHalt {
		same = !partsBy(m.Out, means.Out)
	}
	return same && vmOkBy(m)
}

func neverBy(m impl.Vm) bool { return !slices.Contains([]int{impl.VmFail, impl.VmFault}, m.Code) }

// A trial is a program with what it means.
type trial struct {
	prog  impl.Prog
	means impl.Result
}

func trialOf(p impl.Prog) trial {
	means, _ := evalBy(p, fuelMost)
	return trial{p, means}
}

// holdJudged holds JudgeSame and JudgeNever, and tells what JudgeSame is.
func (j trial) holdJudged(t *testing.T, m impl.Vm) bool {
	t.Helper()
	same := sameBy(j.prog, j.means, m)
	if got := impl.JudgeSame(j.prog, m); got != same {
		t.Fatalf("JudgeSame is %v of %s, which means %s, and %s", got, short(toldProg(j.prog)), short(meansText(j.means)), toldVm(m))
	}
	if got := impl.JudgeNever(m); got != neverBy(m) {
		t.Fatalf("JudgeNever is %v of %s", got, toldVm(m))
	}
	return same
}

// wantSame holds it and wants it.
func (j trial) wantSame(t *testing.T, what string, m impl.Vm, want bool) {
	t.Helper()
	if got := j.holdJudged(t, m); got != want {
		t.Errorf("%s: JudgeSame is %v of what means %s, and %s", what, got, short(meansText(j.means)), toldVm(m))
	}
}

// allBy is true of what is not built, and where there is no machine.
func allBy(w workpiece, half int, each bool, many int) bool {
	m, code := runBy(w, half, each, many)
	if code != impl.BdDone {
		return true
	}
	j := trialOf(w.prog)
	return sameBy(j.prog, j.means, m) && neverBy(m)
}

// holdAll holds JudgeAll against the second telling, and against its words.
func holdAll(t *testing.T, w workpiece, src string, half int, each bool, many int) bool {
	t.Helper()
	got := impl.JudgeAll(src, half, each, many)
	if want := allBy(w, half, each, many); got != want {
		t.Fatalf("JudgeAll of %s in a half of %d, each %v, by %d steps is %v", ending(src), half, each, many, got)
	}
	m, code := impl.RunOf(src, half, each, many)
	p, _ := impl.Parse(src)
	if want := code != impl.BdDone || impl.JudgeSame(p, m) && impl.JudgeNever(m); got != want {
		t.Fatalf("JudgeAll of %s in a half of %d, each %v, by %d steps is %v, and it is of code %d and %s", ending(src), half, each, many, got, code, toldVm(m))
	}
	return got
}
