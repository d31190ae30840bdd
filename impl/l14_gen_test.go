package impl

import (
	"slices"
	"testing"
)

// Places are put one behind the other, however many at once.
func TestPut(t *testing.T) {
	var m making
	many := []Op{{Code: BcNum, N: 4}, {Code: BcAdd}, {Code: BcRet}}
	for _, c := range []struct {
		places []Op
		at     int
	}{{nil, 0}, {many[:1], 0}, {many, 1}, {nil, 4}, {many[1:], 4}, {many[:0], 6}} {
		if got := m.put(c.places...); got != c.at {
			t.Errorf("%v are put at %d, not %d", c.places, got, c.at)
		}
	}
	if want := slices.Concat(many[:1], many, many[1:]); !slices.Equal(m.places, want) {
		t.Errorf("the places are %v", m.places)
	}
	m.places[1].N = 9
	if many[0].N != 4 {
		t.Error("what was handed in is written into")
	}
}

func TestLeadOn(t *testing.T) {
	for _, c := range []struct{ asked, want Op }{
		{Op{Code: BcZero}, Op{Code: BcZero, N: 3}},
		{Op{Code: BcJump}, Op{Code: BcJump, N: 3}},
		{Op{Code: BcIsCon, N: 7}, Op{Code: BcIsCon, N: 7, M: 3}},
		{Op{Code: BcIsNum, N: 7}, Op{Code: BcIsNum, N: 7, M: 3}},
	} {
		var m making
		m.put(Op{Code: BcNum}, c.asked, Op{Code: BcNum})
		m.leadOn(1)
		if m.places[1] != c.want || m.places[0] != (Op{Code: BcNum}) || m.places[2] != (Op{Code: BcNum}) {
			t.Errorf("%v leads on as %v", c.asked, m.places)
		}
	}
}

func TestCodesOfNodes(t *testing.T) {
	if len(codes) != IrFail+1 || codes[0] != 0 {
		t.Errorf("there are %d codes", len(codes))
	}
	met := map[int]int{}
	for op := IrNum; op <= IrFail; op++ {
		met[codes[op]]++
	}
	// A jump and a ret are of no node.
	for code := BcNum; code <= BcFail; code++ {
		want := 1
		if code == BcJump || code == BcRet {
			want = 0
		}
		if met[code] != want {
			t.Errorf("%d nodes have code %d", met[code], code)
		}
	}
}
