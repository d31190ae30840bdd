package impl

import "testing"

// Each kind of node has a check of its own, and nothing else has one.
func TestKindsThatAreChecked(t *testing.T) {
	kinds := kindChecks()
	for op := NdNum; op <= PtCon; op++ {
		if kinds[op] == nil {
			t.Errorf("kind %d has no check", op)
		}
	}
	if len(kinds) != PtCon {
		t.Errorf("there are %d checks, not %d", len(kinds), PtCon)
	}
}

// A type that is not what is made is not gone into, though it were within itself.
func TestWhatASubstitutionMakes(t *testing.T) {
	round := make([]Ty, 1)
	round[0] = Ty{Op: TyData, S: "R", Kids: round}
	one, other := Ty{Op: TyVar, N: 0}, Ty{Op: TyVar, N: 1}
	m := inPlaceOf([]int{0, 0}, []Ty{intType(), other})
	for _, c := range []struct {
		of, ty Ty
		want   bool
	}{{one, intType(), true}, {one, other, false}, {one, one, false}, {other, other, true}, {other, intType(), false}, {funType(one, other), funType(intType(), other), true}, {funType(one, other), funType(intType(), intType()), false}, {funType(other, one), funType(other, one), false},
		{round[0], intType(), false}, {round[0], Ty{Op: TyData, S: "R", Kids: []Ty{intType()}}, false}, {Ty{Op: TyInt, N: 0}, other, false}} {
		if got := m.makes(c.of, c.ty); got != c.want {
			t.Errorf("%s is made: %v", TyText(c.ty), got)
		}
	}
}
