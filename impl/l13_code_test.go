package impl

import (
	"math"
	"testing"
)

// Names are held against each other as a whole: each Code has its own, and what is no Code has the empty one.
func TestNamesOfOps(t *testing.T) {
	met := map[opName]int{}
	for code := -50; code <= 50; code++ {
		name := nameOf(code)
		if name.isNone() != (code < BcNum || code > BcFail) || name.isNone() != (name.text() == "") {
			t.Errorf("the name of code %d is %q", code, name.text())
		}
		met[name]++
	}
	if len(met) != BcFail+1 || met[opName{}] != 101-BcFail {
		t.Errorf("there are %d names", len(met))
	}
	for _, code := range []int{math.MinInt, math.MaxInt, len(opNames), -1, 0} {
		if nameOf(code) != (opName{}) {
			t.Errorf("code %d has a name", code)
		}
	}
	if nameOf(BcCon) == nameOf(BcIsCon) || nameOf(BcNum) != (opName{'n', 'u', 'm', 0, 0}) || nameOf(BcSlide) != (opName{'s', 'l', 'i', 'd', 'e'}) {
		t.Error("a name is another one")
	}
}

func TestTextsOfNames(t *testing.T) {
	for want, name := range map[string]opName{"": {}, "a": {'a'}, "ret": {'r', 'e', 't'}, "local": {'l', 'o', 'c', 'a', 'l'}} {
		if got := name.text(); got != want || name.isNone() != (want == "") {
			t.Errorf("%v is %q, not %q", name, got, want)
		}
	}
}

func TestCodesThatEnd(t *testing.T) {
	for code := -1; code <= 30; code++ {
		if isEnd(code) != (code == 7 || code == 19 || code == 21) {
			t.Errorf("code %d ends: %v", code, isEnd(code))
		}
	}
}
