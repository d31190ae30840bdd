package impl

import (
	"slices"
	"testing"
)

// What might tell more has no end; what does not has a value or none, and both tell what was told.
func TestWhatIsJudged(t *testing.T) {
	heap, _ := HeapNew(5)
	halted := Vm{Heap: heap, Stack: []int{IntWord(4)}, Out: []int{7, 8}, Code: VmHalt}
	going, lost := halted, halted
	going.Code, lost.Stack = VmRoom, nil
	four := Value{Kind: VlInt, N: 4}
	for _, c := range []struct {
		judged  judged
		isEnded bool
		text    string
		is      bool
	}{
		{meant(Result{Value: four, Out: []int{7, 8}}), true, "4", true},
		{meant(Result{Code: EvFuel, Out: []int{7, 8}}), false, "", false},
		{meant(Result{Code: EvStuck, Out: []int{7, 8}}), true, "", false},
		{ran(nil, halted), true, "4", true},
		{ran(nil, going), false, "", false},
		{ran(nil, lost), true, "", false},
	} {
		if !slices.Equal(c.judged.told(), []int{7, 8}) {
			t.Errorf("%v tells %v", c.judged, c.judged.told())
		}
		e, ok := c.judged.(ended)
		if ok != c.isEnded {
			t.Errorf("%v is at its end: %v", c.judged, ok)
		}
		if !ok {
			continue
		}
		if text, is := e.value(); text != c.text || is != c.is {
			t.Errorf("the value of %v is %q and %v", c.judged, text, is)
		}
	}
}

// Each list of up to three ints of two against each other one.
func TestAgree(t *testing.T) {
	lists := [][]int{nil}
	for at := 0; at < len(lists) && len(lists[at]) < 3; at++ {
		for n := range 2 {
			lists = append(lists, append(slices.Clone(lists[at]), n))
		}
	}
	if len(lists) != 15 {
		t.Fatalf("there are %d lists", len(lists))
	}
	for _, a := range lists {
		for _, b := range lists {
			many := min(len(a), len(b))
			begins, same := slices.Equal(a[:many], b[:many]), slices.Equal(a, b)
			for _, c := range []struct {
				one, other judged
				want       bool
			}{
				{partly(a), partly(b), begins}, {partly(a), wholly{b, "x", true}, begins}, {partly(a), wholly{partly: b}, begins},
				{wholly{a, "x", true}, wholly{b, "x", true}, same}, {wholly{a, "x", true}, wholly{b, "y", true}, false}, {wholly{a, "", true}, wholly{b, "", true}, same},
				{wholly{partly: a}, wholly{partly: b}, false}, {wholly{a, "x", true}, wholly{b, "x", false}, false}, {wholly{a, "x", false}, wholly{b, "x", false}, false},
			} {
				if agree(c.one, c.other) != c.want || agree(c.other, c.one) != c.want {
					t.Errorf("%v and %v agree: %v", c.one, c.other, !c.want)
				}
			}
			if isBeginning(a, b) != (begins && len(a) <= len(b)) {
				t.Errorf("%v is the beginning of %v: %v", a, b, isBeginning(a, b))
			}
		}
	}
}
