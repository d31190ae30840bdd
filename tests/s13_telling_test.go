package tests

import (
	"fmt"
	"strings"
	"testing"

	"loop.example/g00323/impl"
)

const (
	placesMost = 3000
	keptMost   = 20
	tagsMost   = 60
)

func TestCodeNumbers(t *testing.T) {
	codes := []int{impl.BcNum, impl.BcLocal, impl.BcFree, impl.BcSelf, impl.BcClos, impl.BcCall, impl.BcRet, impl.BcCon, impl.BcField, impl.BcIsCon, impl.BcIsNum, impl.BcAdd, impl.BcSub, impl.BcMul, impl.BcLess, impl.BcSame, impl.BcPut, impl.BcZero, impl.BcJump, impl.BcSlide, impl.BcFail}
	for i, code := range codes {
		if code != i+1 {
			t.Errorf("code %d is %d", i, code)
		}
	}
	if len(codes) != 21 || impl.MaxPlaces != placesMost || impl.MaxKids != keptMost || impl.MaxCons != tagsMost || impl.MaxBlocks != blocksMost {
		t.Error("a limit is another one")
	}
}

var codeNames = strings.Fields("num local free self clos call ret con field iscon isnum add sub mul less same put zero jump slide fail")

// codeName is empty of no Code.
func codeName(code int) string {
	if code < 1 || code > len(codeNames) {
		return ""
	}
	return codeNames[code-1]
}

func opTextBy(o impl.Op) string {
	if codeName(o.Code) == "" {
		return ""
	}
	return fmt.Sprintf("%s %d %d", codeName(o.Code), o.N, o.M)
}

func anOp(code, n, m int) impl.Op { return impl.Op{Code: code, N: n, M: m} }

func retOp() impl.Op { return anOp(impl.BcRet, 0, 0) }

func oneOp() impl.Op { return anOp(impl.BcNum, 1, 0) }

func aFunction(free int, list ...impl.Op) impl.Fun { return impl.Fun{Free: free, List: list} }

func toldFuns(list []impl.Fun) string {
	var text strings.Builder
	for i, f := range list {
		fmt.Fprintf(&text, "function %d keeps %d:", i, f.Free)
		for _, o := range f.List {
			fmt.Fprintf(&text, " %d %d %d,", o.Code, o.N, o.M)
		}
		text.WriteString("; ")
	}
	return text.String()
}

// span is all numbers from one to another one; none where that is less.
type span struct{ from, to int }

func (s span) has(n int) bool { return s.from <= n && n <= s.to }

// spanN is what N may be, spanM what M may be beside that N.
func spanN(list []impl.Fun, number int, name string) span {
	switch {
	case name == "num" || name == "isnum":
		return span{least, greatest}
	case name == "local":
		return span{0, placesMost - 1}
	case name == "free":
		return span{0, list[number].Free - 1}
	case name == "self" && number == 0 || name == "":
		return span{1, 0}
	case name == "clos":
		return span{1, len(list) - 1}
	case strings.HasSuffix(name, "con") || name == "field":
		return span{0, tagsMost - 1}
	case name == "zero" || name == "jump":
		return span{0, len(list[number].List) - 1}
	}
	return span{}
}

func spanM(list []impl.Fun, number int, name string, n int) span {
	switch name {
	case "clos":
		return span{list[n].Free, list[n].Free}
	case "con":
		return span{0, keptMost}
	case "iscon", "isnum":
		return span{0, len(list[number].List) - 1}
	}
	return span{}
}

func opOkBy(list []impl.Fun, number int, o impl.Op) bool {
	name := codeName(o.Code)
	return spanN(list, number, name).has(o.N) && spanM(list, number, name, o.N).has(o.M)
}

// funsOkBy is the second telling of FunsOk: what is wrong is counted.
func funsOkBy(list []impl.Fun) bool {
	wrong := 0
	count := func(is bool) {
		if is {
			wrong++
		}
	}
	count(!span{1, blocksMost}.has(len(list)))
	for i, f := range list {
		count(!span{0, keptMost}.has(f.Free) || i == 0 && f.Free > 0)
		count(!span{1, placesMost}.has(len(f.List)))
		last := ""
		for _, o := range f.List {
			count(!opOkBy(list, i, o))
			last = codeName(o.Code)
		}
		count(!strings.Contains(" ret jump fail ", " "+last+" "))
	}
	return wrong == 0
}

func wantFunsOk(t *testing.T, list []impl.Fun, want bool) {
	t.Helper()
	if got := impl.FunsOk(list); got != want {
		t.Errorf("FunsOk(%.300s) is %v", toldFuns(list), got)
	}
	if got := funsOkBy(list); got != want {
		t.Errorf("the second telling of FunsOk(%.300s) is %v", toldFuns(list), got)
	}
	if want {
		wantNamed(t, list)
	}
}

// wantNamed holds the promise: what is right is named.
func wantNamed(t *testing.T, list []impl.Fun) {
	t.Helper()
	for _, f := range list {
		for _, o := range f.List {
			if got := impl.OpText(o); got == "" || got != opTextBy(o) {
				t.Errorf("OpText(%v) is %q", o, got)
				return
			}
		}
	}
}
