package impl

import "testing"

func someDatas() []Data {
	box := Ty{Op: TyData, S: "Box", Kids: []Ty{{Op: TyFun, Kids: []Ty{{Op: TyInt}, {Op: TyVar}}}}}
	return []Data{{Name: "None"}, {Name: "Box", Vars: 1, Cons: []Con{{Name: "Box", Args: []Ty{box, {Op: TyInt}}}, {Name: "Bare"}}}, {Name: "None"}, {Name: "Last", Cons: []Con{{Name: "Last", Args: []Ty{{Op: TyInt}}}}}}
}

// Where no more cons are asked for, none is told: one that goes on then panics here.
func TestConsOfStopsEarly(t *testing.T) {
	want := []conPlace{{0, 1, 0}, {1, 1, 1}, {2, 3, 0}}
	for most := 1; most <= len(want)+1; most++ {
		var met []conPlace
		for at, c := range consOf(someDatas()) {
			if at.tag < len(want) && at != want[at.tag] || c.Name != someDatas()[at.data].Cons[at.con].Name {
				t.Errorf("the con %s stands at %v", c.Name, at)
			}
			met = append(met, at)
			if len(met) == most {
				break
			}
		}
		if len(met) != min(most, len(want)) {
			t.Errorf("asked for %d, the cons are %v", most, met)
		}
	}
}

func TestTypesOfStopsEarly(t *testing.T) {
	const all = 6
	for most := 1; most <= all+1; most++ {
		met := 0
		for range typesOf(someDatas()) {
			met++
			if met == most {
				break
			}
		}
		if met != min(most, all) {
			t.Errorf("asked for %d types, %d are told", most, met)
		}
	}
}

// What goes through types may be asked for them again.
func TestTypesOfAreToldAgain(t *testing.T) {
	all := typesOf(someDatas())
	for range 2 {
		met := map[int]int{}
		for ty := range all {
			met[ty.Op]++
		}
		if met[TyInt] != 3 || met[TyVar] != 1 || met[TyFun] != 1 || met[TyData] != 1 {
			t.Errorf("the types are %v", met)
		}
	}
}
