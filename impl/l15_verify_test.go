package impl

import (
	"slices"
	"testing"
)

// Behind a place there are as many values as it leaves; false where those ahead of it are not as it wants them, at each edge.
func TestValuesBehind(t *testing.T) {
	for _, c := range []struct {
		o            Op
		values, then int
		ok           bool
	}{
		{Op{Code: BcNum}, 1, 2, true},
		{Op{Code: BcNum}, MaxDepth - 1, MaxDepth, true},
		{Op{Code: BcNum}, MaxDepth, 0, false},
		{Op{Code: BcLocal, N: 3}, 4, 5, true},
		{Op{Code: BcLocal, N: 4}, 4, 0, false},
		{Op{Code: BcCon, M: 5}, 6, 2, true},
		{Op{Code: BcCon, M: 5}, 5, 0, false},
		{Op{Code: BcCon}, 1, 2, true},
		{Op{Code: BcSlide}, 3, 2, true},
		{Op{Code: BcSlide}, 2, 0, false},
		{Op{Code: BcRet}, 2, 1, true},
		{Op{Code: BcRet}, 1, 0, false},
		{Op{Code: BcRet}, 3, 0, false},
		{Op{Code: BcZero}, 2, 1, true},
		{Op{Code: BcZero}, 1, 0, false},
		{Op{Code: BcPut}, MaxDepth, MaxDepth, true},
		{Op{Code: BcFail}, 1, 1, true},
		{Op{Code: BcJump}, MaxDepth, MaxDepth, true},
	} {
		then, ok := valuesBehind(c.o, c.values)
		if ok != c.ok || ok && then != c.then {
			t.Errorf("behind %v with %d values there are %d, and it is %v", c.o, c.values, then, ok)
		}
	}
}

// Each place is met once, whichever ways lead to it, so that loops end.
func TestDepthsOfPlacesThatLeadToEachOther(t *testing.T) {
	for _, c := range []struct {
		places []Op
		want   []int
	}{
		{[]Op{{Code: BcJump}}, []int{1}},
		{[]Op{{Code: BcJump, N: 1}, {Code: BcJump}}, []int{1, 1}},
		{[]Op{{Code: BcNum}, {Code: BcZero}, {Code: BcJump}, {Code: BcFail}}, []int{1, 2, 1, neverMet}},
		{[]Op{{Code: BcNum}, {Code: BcIsNum, M: 3}, {Code: BcJump}, {Code: BcNum}, {Code: BcJump, N: 1}}, []int{1, 2, 1, 1, 2}},
		{[]Op{{Code: BcNum}, {Code: BcJump}}, nil},
		{[]Op{{Code: BcNum}, {Code: BcIsCon, M: 1}, {Code: BcFail}}, nil},
		{[]Op{{Code: BcNum}, {Code: BcIsCon, M: 3}, {Code: BcNum}, {Code: BcFail}}, nil},
	} {
		if got, ok := depthsOf(c.places); ok != (c.want != nil) || !slices.Equal(got, c.want) {
			t.Errorf("of %v it is %v and %v", c.places, ok, got)
		}
	}
}
