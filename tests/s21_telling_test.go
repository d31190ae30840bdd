package tests

import (
	"strconv"
	"testing"

	"loop.example/g00323/impl"
)

func TestNumbersOfChapter21(t *testing.T) {
	for i, code := range []int{impl.BdDone, impl.BdParse, impl.BdType, impl.BdMiss, impl.BdClose, impl.BdGen} {
		if code != i {
			t.Errorf("code %d is %d", i, code)
		}
	}
}

// A second telling of chapter 21: all that the chapters below it tell is asked of their second tellings, whether it is needed or not; which code counts is told behind that.

// A workpiece is all that is made of a text, and which codes fit.
type workpiece struct {
	prog  impl.Prog
	typed impl.Typed
	how   int
	funs  []impl.Fun
	codes []int
}

func workpieceOf(src string) workpiece {
	var w workpiece
	p, bad := impl.Parse(src)
	if placeBy(src) != -1 || bad != -1 {
		return workpiece{codes: []int{impl.BdParse}}
	}
	w.prog = p
	w.typed, w.how = inferBy(p)
	blocks, closed := closeBy(p)
	funs, made := genBy(blocks)
	for i := range funs {
		_, ok := depthsBy(funs, i)
		made = made && ok
	}
	for code, fits := range map[int]bool{impl.BdType: w.how != impl.IfDone, impl.BdMiss: !coveredBy(p), impl.BdClose: !closed, impl.BdGen: !made} {
		if fits {
			w.codes = append(w.codes, code)
		}
	}
	if len(w.codes) == 0 {
		w.funs = funs
	}
	return w
}

// code is the first one that fits, or none.
func (w workpiece) code() int {
	code := impl.BdDone
	for _, c := range w.codes {
		if code == impl.BdDone || c < code {
			code = c
		}
	}
	return code
}

// newVmBy is the machine at its beginning.
func newVmBy(funs []impl.Fun, half int, each bool) impl.Vm {
	return impl.Vm{Funs: funs, Heap: impl.Heap{Words: make([]int, 2*half), Half: half}, Stack: []int{1, 1}, Calls: []impl.Call{{Base: 1}}, Each: each}
}

// runBy goes step by step.
func runBy(w workpiece, half int, each bool, many int) (impl.Vm, int) {
	if code := w.code(); code != impl.BdDone {
		return impl.Vm{}, code
	}
	if half < 1 || half > halfMost {
		return impl.Vm{}, impl.BdGen
	}
	m := newVmBy(w.funs, half, each)
	for i := 0; i < many && i < stepsMost && m.Code == impl.VmGo; i++ {
		m = impl.VmStep(m)
	}
	return m, impl.BdDone
}

// typeBy has -1 where nothing is parsed.
func typeBy(w workpiece) (string, int) {
	if w.code() == impl.BdParse {
		return "", -1
	}
	if w.how != impl.IfDone {
		return "", w.how
	}
	return shownBy(w.typed.Ty), impl.IfDone
}

// ending is what tells texts apart that begin with the same datas.
func ending(src string) string { return strconv.Quote(src[max(0, len(src)-400):]) }

// holdBuild holds Build, and with it the chapters below, and tells which code it was.
func holdBuild(t *testing.T, src string) (workpiece, int) {
	t.Helper()
	w := workpieceOf(src)
	funs, code := impl.Build(src)
	if code != w.code() || toldFuns(funs) != toldFuns(w.funs) {
		t.Fatalf("Build of %s is %d and %.500s, not %d and %.500s", ending(src), code, toldFuns(funs), w.code(), toldFuns(w.funs))
	}
	if code != impl.BdDone {
		if len(funs) > 0 {
			t.Fatalf("of code %d, Build of %s is %.500s", code, ending(src), toldFuns(funs))
		}
		return w, code
	}
	p, bad := impl.Parse(src)
	blocks, closed := impl.Close(p)
	made, ok := impl.Gen(blocks)
	if bad != -1 || !closed || !ok || !sameFuns(made, funs) || !impl.Verify(funs) {
		t.Fatalf("Build of %s is not what is made of it, but %.500s", ending(src), toldFuns(funs))
	}
	return w, code
}

// holdTypeOf holds TypeOf, whose code it tells.
func holdTypeOf(t *testing.T, w workpiece, src string) int {
	t.Helper()
	text, how := impl.TypeOf(src)
	if want, is := typeBy(w); text != want || how != is {
		t.Fatalf("TypeOf of %s is %q and %d, not %q and %d", ending(src), text, how, want, is)
	}
	p, bad := impl.Parse(src)
	if bad != -1 {
		if text != "" || how != -1 {
			t.Fatalf("TypeOf of %s, which is no program, is %q and %d", ending(src), text, how)
		}
		return how
	}
	typed, found := impl.Infer(p)
	if how != found || how == impl.IfDone && text != impl.TyShown(typed.Ty) || how != impl.IfDone && text != "" {
		t.Fatalf("TypeOf of %s is %q and %d; of Infer it is %d", ending(src), text, how, found)
	}
	return how
}

// holdRunOf holds one run, which it tells.
func holdRunOf(t *testing.T, w workpiece, src string, half int, each bool, many int) (impl.Vm, int) {
	t.Helper()
	want, is := runBy(w, half, each, many)
	m, code := impl.RunOf(src, half, each, many)
	if code != is || !sameVm(m, want) {
		t.Fatalf("RunOf of %s in a half of %d, each %v, by %d steps is %d and %s, not %d and %s", ending(src), half, each, many, code, toldVm(m), is, toldVm(want))
	}
	if code != impl.BdDone {
		if !sameVm(m, impl.Vm{}) {
			t.Fatalf("of code %d, RunOf of %s is %s", code, ending(src), toldVm(m))
		}
		return m, code
	}
	funs, _ := impl.Build(src)
	begun, ok := impl.VmNew(funs, half, each)
	if !ok || !sameVm(m, impl.VmRun(begun, many)) || !impl.VmOk(m) {
		t.Fatalf("RunOf of %s in a half of %d, each %v, by %d steps is %s", ending(src), half, each, many, toldVm(m))
	}
	return m, code
}

// holdText holds all three of a text.
func holdText(t *testing.T, src string) (workpiece, int) {
	t.Helper()
	w, code := holdBuild(t, src)
	holdTypeOf(t, w, src)
	holdRunOf(t, w, src, 30, true, 40)
	return w, code
}

// wantBuilt wants all three to be of that code.
func wantBuilt(t *testing.T, src string, want int) {
	t.Helper()
	if _, code := holdText(t, src); code != want {
		t.Errorf("Build of %s is %d, not %d", ending(src), code, want)
	}
}
