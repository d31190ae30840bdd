package tests

import (
	"math"
	"slices"
	"testing"

	"loop.example/g00323/impl"
)

const treeDatas = "data A = X | Y; data O a = N | S a; data L a = E | C a (L a); data T = T Int Int Int; "

// wantTree holds the tree of patterns that are read, and that it is right.
func wantTree(t *testing.T, text, want string) {
	t.Helper()
	list := datasOf(treeDatas)
	got, ok := holdTrees(t, list, alternativesRead(text))
	if !ok || treeText(got) != want || !impl.TreeOk(list, got) {
		t.Errorf("the tree of %s is %s and %v, not %s", text, toldTree(got), ok, want)
	}
}

func wantNoTree(t *testing.T, list []impl.Data, alts []impl.Node) {
	t.Helper()
	if got, ok := impl.Trees(list, alts); ok || toldTree(got) != toldTree(impl.Tree{}) {
		t.Errorf("the tree of %.300s is %.300s and %v", toldRows(patternsBy(alts)...), toldTree(got), ok)
	}
	if _, many := treesBy(list, alts); 0 < many && many <= treesMost {
		t.Errorf("the second telling has %d trees of %.300s", many, toldRows(patternsBy(alts)...))
	}
}

// wantNoTreeAmong holds that one alternative is wrong wherever it is, also where nothing of it would be asked.
func wantNoTreeAmong(t *testing.T, list []impl.Data, one impl.Node) {
	t.Helper()
	for _, others := range []string{"", "_", "x; y", "X; Y", "1; 2; 3; _", "S 1; S _; _", "C 1 E; C _ _", "T 1 1 1; _; E"} {
		alts := alternativesRead(others)
		for at := range len(alts) + 1 {
			wantNoTree(t, list, slices.Insert(slices.Clone(alts), at, one))
		}
	}
}

func TestTreesThatAskNothing(t *testing.T) {
	wantTree(t, "", "!")
	for _, text := range []string{"_", "x", "_; _", "x; _", "_; X", "x; 1; N", "_; S (S 1); C 1 E; _"} {
		wantTree(t, text, "0")
	}
	for _, list := range [][]impl.Data{nil, {}, {{}}} {
		for _, alts := range [][]impl.Node{nil, {}} {
			if got, ok := holdTrees(t, list, alts); !ok || treeText(got) != "!" {
				t.Errorf("the tree of no alternatives is %s and %v", toldTree(got), ok)
			}
		}
		if got, ok := holdTrees(t, list, alternativesRead("3; _; 4")); !ok || treeText(got) != "[3@ 0 1]" {
			t.Errorf("without datas the tree of numbers is %s and %v", toldTree(got), ok)
		}
	}
}

// Rows that ask another con or int at a place, the same one, or nothing there.
func TestTreesOfOnePlace(t *testing.T) {
	for text, want := range map[string]string{"X": "[X@ 0 !]", "X; Y": "[X@ 0 [Y@ 1 !]]", "Y; X": "[Y@ 0 [X@ 1 !]]", "X; _": "[X@ 0 1]", "X; y; Y": "[X@ 0 1]", "X; X": "[X@ 0 !]", "X; X; _": "[X@ 0 2]", "X; Y; X; Y; _": "[X@ 0 [Y@ 1 4]]",
		"0": "[0@ 0 !]", "1; 2; _": "[1@ 0 [2@ 1 2]]", "1; 1; 2; 1; x": "[1@ 0 [2@ 2 4]]", "1073741823; 0": "[1073741823@ 0 [0@ 1 !]]",
		// A con and a number may stand at one place, though no type has both.
		"1; X; _": "[1@ 0 [X@ 1 2]]", "X; 1; X; 2; Y": "[X@ 0 [1@ 1 [2@ 3 [Y@ 4 !]]]]", "N; X; E; 0": "[N@ 0 [X@ 1 [E@ 2 [0@ 3 !]]]]",
		// What is asked is asked though no con is left but that.
		"N; S _": "[N@ 0 [S@ 1 !]]", "N; S x; _": "[N@ 0 [S@ 1 2]]"} {
		wantTree(t, text, want)
	}
}

// A con's kids stand in its place, ahead of what was behind it and behind what was ahead.
func TestTreesOfKids(t *testing.T) {
	for text, want := range map[string]string{
		"S 1; N; S x":               "[S@ [1@0 0 2] [N@ 1 !]]",
		"S _; _":                    "[S@ 0 1]",
		"S (S (S 7)); S (S _)":      "[S@ [S@0 [S@0.0 [7@0.0.0 0 1] 1] !] !]",
		"C 1 E; C x E; E":           "[C@ [1@0 [E@1 0 !] [E@1 1 !]] [E@ 2 !]]",
		"C _ (C _ (C 3 _)); _":      "[C@ [C@1 [C@1.1 [3@1.1.0 0 1] 1] 1] 1]",
		"T 1 2 3; T _ 2 _":          "[T@ [1@0 [2@1 [3@2 0 1] !] [2@1 1 !]] !]",
		"T _ 2 _; T 1 2 3":          "[T@ [2@1 0 !] !]",
		"T X _ _; T _ X _; T Y _ _": "[T@ [X@0 0 [X@1 1 [Y@0 2 !]]] !]",
		// Within the first kid of T comes ahead of its second one.
		"T (S 1) 2 _; T (S _) 3 x": "[T@ [S@0 [1@0.0 [2@1 0 [3@1 1 !]] [3@1 1 !]] !] !]",
		// In the second row the kid of S stands between 1 and 3.
		"T _ (S 9) _; T 1 (S 2) 3": "[T@ [S@1 [9@1.0 0 [1@0 [2@1.0 [3@2 1 !] !] !]] !] !]",
		// In the second row both kids of C stand there, in their order.
		"T _ (C 8 E) _; T 1 (C 2 N) 3": "[T@ [C@1 [8@1.0 [E@1.1 0 !] [1@0 [2@1.0 [N@1.1 [3@2 1 !] !] !] !]] !] !]"} {
		wantTree(t, text, want)
	}
}

// What is asked already is asked no more, whichever place came first.
func TestTreesThatAskInTurns(t *testing.T) {
	for text, want := range map[string]string{
		"T X X _; T X Y _; T Y X _; T Y Y _": "[T@ [X@0 [X@1 0 [Y@1 1 !]] [Y@0 [X@1 2 [Y@1 3 !]] !]] !]",
		"T _ X _; T X _ _; T Y Y _":          "[T@ [X@1 0 [X@0 1 [Y@0 [Y@1 2 !] !]]] !]",
		"T X _ 1; T _ X 1; T X X _; T _ _ 2": "[T@ [X@0 [1@2 0 [X@1 2 [2@2 3 !]]] [X@1 [1@2 1 [2@2 3 !]] [2@2 3 !]]] !]",
		"S (S 1); S 1; 1; S (S _); S _; _":   "[S@ [S@0 [1@0.0 0 3] [1@0 1 4]] [1@ 2 5]]"} {
		wantTree(t, text, want)
	}
}

// numberAlts are alternatives of as many numbers, which have twice as many trees and one more.
func numberAlts(many int) []impl.Node {
	var alts []impl.Node
	for n := range many {
		alts = append(alts, anAlt(numPat(n), aNum(0)))
	}
	return alts
}

// wantTrees holds how many trees there are. Each has two kids or none, so that the number is never even: 299 is the most.
func wantTrees(t *testing.T, list []impl.Data, alts []impl.Node, want int) {
	t.Helper()
	if want > treesMost {
		wantNoTree(t, list, alts)
		return
	}
	if got, ok := holdTrees(t, list, alts); !ok || len(treesIn(&got)) != want || want%2 == 0 {
		t.Errorf("%.300s: there are %d trees, not %d", toldRows(patternsBy(alts)...), len(treesIn(&got)), want)
	}
}

func TestTreesThatAreMany(t *testing.T) {
	list := datasOf(treeDatas)
	for _, many := range []int{0, 1, 2, 147, 148, 149, 150, 151, 300, 1000} {
		alts := numberAlts(many)
		wantTrees(t, list, alts, 2*many+1)
		wantTrees(t, list, append(alts, anAlt(anyPat(), aNum(0))), 2*many+1)
		// What is never asked is no tree.
		wantTrees(t, list, slices.Concat(alts, alts, numberAlts(many/2)), 2*many+1)
		wantTrees(t, list, slices.Concat([]impl.Node{anAlt(varPat("x"), aNum(0))}, alts), 1)
		within := chain(many, anyPat(), func(n impl.Node) impl.Node { return conPat("S", n) })
		wantTrees(t, list, []impl.Node{anAlt(within, aNum(0))}, 2*many+1)
		if many < treesMost {
			beside := chain(many, conPat("E"), func(n impl.Node) impl.Node { return conPat("C", anyPat(), n) })
			wantTrees(t, list, []impl.Node{anAlt(beside, aNum(0)), anAlt(anyPat(), aNum(0))}, 2*many+3)
		}
	}
}

// The same limit, where trees go down on both sides. Numbers at the root come behind all else, and make two trees each.
func TestTreesThatAreManyOnBothSides(t *testing.T) {
	s := steps(111)
	list := datasOf(treeDatas)
	met := map[bool]int{}
	for i := range 160 {
		var alts []impl.Node
		for range 2 + i%80 {
			kids := []impl.Node{numPat(s.below(6)), numPat(s.below(6)), numPat(s.below(6))}
			kids[s.below(3)] = anyPat()
			alts = append(alts, anAlt(conPat("T", kids...), aNum(0)))
		}
		_, many := treesBy(list, alts)
		met[many < treesMost]++
		if many > treesMost {
			wantNoTree(t, list, alts)
			continue
		}
		left := (treesMost - many) / 2
		wantTrees(t, list, alts, many)
		wantTrees(t, list, slices.Concat(alts, numberAlts(left)), treesMost-1)
		wantTrees(t, list, slices.Concat(alts, numberAlts(left+1)), treesMost+1)
	}
	if met[true] < 60 || met[false] < 20 {
		t.Errorf("there are so many trees and not %v times", met)
	}
}

// Each spot of an alternative's pattern at which a con may stand.
func conSpots(p impl.Node) []impl.Node {
	return []impl.Node{p, conPat("S", p), conPat("C", p, anyPat()), conPat("C", anyPat(), p), conPat("T", anyPat(), numPat(1), p), conPat("S", conPat("S", conPat("C", numPat(1), p)))}
}

func TestTreesOfConsThatAreNone(t *testing.T) {
	list := datasOf(treeDatas)
	any := anyPat()
	wrong := []impl.Node{conPat("Z"), conPat("Z", any), conPat(""), conPat("x"), conPat("A"), conPat("Int"), conPat("s", any), conPat("S "), {Op: impl.PtCon}, {Op: impl.PtCon, N: 1, T: "X"},
		conPat("X", any), conPat("N", any), conPat("S"), conPat("S", any, any), conPat("C"), conPat("C", any), conPat("C", any, any, any), conPat("T", any, any), conPat("E", conPat("E"))}
	for _, p := range wrong {
		for _, spot := range conSpots(p) {
			one := anAlt(spot, aNum(0))
			wantNoTree(t, nil, []impl.Node{one})
			wantNoTreeAmong(t, list, one)
			wantNoTree(t, list, append(numberAlts(200), one))
		}
	}
}

// The same con by its right name, and with its kids, is one.
func TestTreesOfConsThatAre(t *testing.T) {
	any := anyPat()
	list := datasOf(treeDatas)
	for _, p := range []impl.Node{conPat("X"), conPat("N"), conPat("S", any), conPat("C", any, any), conPat("T", any, any, any), conPat("E"), {Op: impl.PtCon, S: "X", N: 7, T: "t"}} {
		for _, spot := range conSpots(p) {
			if _, ok := holdTrees(t, list, []impl.Node{anAlt(spot, aNum(0))}); !ok {
				t.Errorf("there is no tree of %s", nodeTextOrTold(spot))
			}
			wantNoTree(t, list[:0], []impl.Node{anAlt(spot, aNum(0))})
		}
	}
	// A body is not asked for its cons, nor for anything else.
	for _, body := range []impl.Node{aCon("Z"), conPat("Z"), {}, {Op: -1}, node(impl.NdCase), node(impl.NdAlt, conPat("Z"))} {
		for _, alts := range [][]impl.Node{{anAlt(conPat("X"), body), anAlt(any, body)}, {node(impl.NdAlt, conPat("X"), body, body), node(impl.NdAlt, any)}} {
			if got, ok := holdTrees(t, list, alts); !ok || treeText(got) != "[X@ 0 1]" {
				t.Errorf("with %s behind it, the tree is %s and %v", told(body), toldTree(got), ok)
			}
		}
	}
}

// Of cons of one name the first one counts; whatever the datas are, they are only asked for cons.
func TestTreesOfDatasThatAreNotRight(t *testing.T) {
	any := anyPat()
	list := []impl.Data{oneData("A", 0), oneData("A", -1, oneCon("Q", intTy()), oneCon("Q")), oneData("", 0, oneCon("Q", intTy(), intTy()), oneCon("", impl.Ty{}))}
	for _, p := range []impl.Node{conPat("Q"), conPat("Q", any, any), conPat(""), conPat("A")} {
		wantNoTree(t, list, []impl.Node{anAlt(p, aNum(0))})
	}
	for _, c := range []struct {
		p    impl.Node
		want string
	}{{conPat("Q", any), "[Q@ 0 !]"}, {conPat("Q", numPat(3)), "[Q@ [3@0 0 !] !]"}, {conPat("", conPat("Q", any)), "[@ [Q@0 0 !] !]"}} {
		if got, ok := holdTrees(t, list, []impl.Node{anAlt(c.p, aNum(0))}); !ok || treeText(got) != c.want || !impl.TreeOk(list, got) {
			t.Errorf("the tree of %s is %s and %v", told(c.p), toldTree(got), ok)
		}
	}
	many := []impl.Data{oneData("M", 0, consNamed(10*consMost, "C")...)}
	if got, ok := holdTrees(t, many, []impl.Node{anAlt(conPat("C599"), aNum(0)), anAlt(conPat("C0"), aNum(0))}); !ok || treeText(got) != "[C599@ 0 [C0@ 1 !]]" {
		t.Errorf("of many cons the tree is %s and %v", toldTree(got), ok)
	}
}

func TestTreesOfNodesThatAreNoPatterns(t *testing.T) {
	list := datasOf(treeDatas)
	for _, p := range noPatterns() {
		for _, spot := range conSpots(p) {
			wantNoTreeAmong(t, list, anAlt(spot, aNum(0)))
		}
	}
}

func TestTreesOfNodesThatAreNoAlternatives(t *testing.T) {
	list := datasOf(treeDatas)
	none := []impl.Node{node(impl.NdAlt), {}, anyPat(), numPat(1), conPat("X"), conPat("S", anyPat()), aNum(1), aVar("x"), {Op: math.MaxInt}, {Op: math.MinInt}, {Op: impl.NdAlt, N: 1, S: "X", T: "x", Kids: []impl.Node{}}}
	for op := -1; op <= impl.PtCon+1; op++ {
		if op != impl.NdAlt {
			none = append(none, node(op), node(op, anyPat(), aNum(0)), node(op, conPat("X"), aNum(0)))
		}
	}
	for _, n := range none {
		wantNoTreeAmong(t, list, n)
	}
}

// What a pattern or an alternative does not name turns nothing.
func TestTreesLookAtWhatIsNamed(t *testing.T) {
	list := datasOf(treeDatas)
	wrong := []impl.Node{conPat("Z"), {}}
	for _, c := range []struct {
		p    impl.Node
		want string
	}{{impl.Node{Op: impl.PtAny, N: 7, S: "X", T: "t", Kids: wrong}, "0"}, {impl.Node{Op: impl.PtVar, N: 7, S: "X", T: "t", Kids: wrong}, "0"}, {varPat(""), "0"}, {impl.Node{Op: impl.PtNum, N: 7, S: "X", T: "t", Kids: wrong}, "[7@ 0 1]"}, {impl.Node{Op: impl.PtCon, N: 7, S: "S", T: "t", Kids: columns(numPat(1), 1)}, "[S@ [1@0 0 1] 1]"},
		{conPat("S", impl.Node{Op: impl.PtAny, Kids: wrong}), "[S@ 0 1]"}, {conPat("S", impl.Node{Op: impl.PtNum, N: 7, Kids: wrong}), "[S@ [7@0 0 1] 1]"}} {
		alts := []impl.Node{{Op: impl.NdAlt, N: 5, S: "X", T: "y", Kids: []impl.Node{c.p, aNum(0)}}, anAlt(anyPat(), aNum(0))}
		if got, ok := holdTrees(t, list, alts); !ok || treeText(got) != c.want {
			t.Errorf("the tree of %s is %s and %v, not %s", told(c.p), toldTree(got), ok, c.want)
		}
	}
	// Two numbers are one where what they name is.
	odd := impl.Node{Op: impl.PtNum, N: 1, S: "X", Kids: wrong}
	if got, ok := holdTrees(t, list, []impl.Node{anAlt(numPat(1), aNum(0)), anAlt(odd, aNum(0)), anAlt(numPat(0), aNum(0)), anAlt(odd, aNum(0))}); !ok || treeText(got) != "[1@ 0 [0@ 2 !]]" {
		t.Errorf("the tree of one number twice is %s and %v", toldTree(got), ok)
	}
}

// A number that is no word, and a path that is too long, are asked as they are: the tree is told, and is not right.
func TestTreesThatAreNotRight(t *testing.T) {
	list := datasOf(treeDatas)
	for _, n := range []int{-1, least, least - 1, greatest, greatest + 1, math.MaxInt, math.MinInt} {
		alts := []impl.Node{anAlt(numPat(n), aNum(0)), anAlt(numPat(n^1<<31), aNum(0)), anAlt(anyPat(), aNum(0))}
		got, ok := holdTrees(t, list, alts)
		if !ok || len(treesIn(&got)) != 5 || impl.TreeOk(list, got) {
			t.Errorf("the tree of %d is %s and %v", n, toldTree(got), ok)
		}
		for i, v := range []impl.Value{intValue(n), intValue(n ^ 1<<31), intValue(n + 1)} {
			if impl.RunTree(got, v) != i {
				t.Errorf("%s leads to another one than %d", toldTree(got), i)
			}
		}
	}
	for _, deep := range []int{treeDeep - 1, treeDeep, treeDeep + 1, 100} {
		p := chain(deep, numPat(3), func(n impl.Node) impl.Node { return conPat("S", n) })
		got, ok := holdTrees(t, list, []impl.Node{anAlt(p, aNum(0))})
		if !ok || impl.TreeOk(list, got) != (deep <= treeDeep) || impl.RunTree(got, withinCons(deep, intValue(3))) != 0 || impl.RunTree(got, withinCons(deep-1, intValue(3))) != -1 {
			t.Errorf("the tree of what is %d deep is %.300s and %v", deep, toldTree(got), ok)
		}
	}
}

func TestTreesOfGreatPatterns(t *testing.T) {
	const many = 100000
	list := append(datasOf(treeDatas), oneData("W", 0, oneCon("W", slices.Repeat([]impl.Ty{intTy()}, many)...)))
	round := []impl.Node{conPat("C"), conPat("C")}
	round[0].Kids, round[1].Kids = round, round
	self := []impl.Node{conPat("C"), conPat("Z")}
	self[0].Kids = self
	deep := chain(many, numPat(1), func(n impl.Node) impl.Node { return conPat("S", n) })
	last := append(columns(anyPat(), many-1), numPat(5))
	quickly(t, "Trees", func() {
		for i, c := range []struct {
			p    impl.Node
			want string
		}{{deep, ""}, {round[0], ""}, {self[0], ""}, {sharedPattern(200, numPat(1)), ""}, {sharedPattern(200, conPat("Z")), ""}, {sharedPattern(3, anyPat()), "[C@ [C@0 [C@1 0 1] 1] 1]"}, {conPat("W", columns(anyPat(), many)...), "[W@ 0 1]"}, {conPat("W", columns(numPat(1), many)...), ""}, {conPat("W", last...), "[W@ [5@99999 0 1] 1]"}, {conPat("W", last[1:]...), ""}} {
			got, ok := impl.Trees(list, []impl.Node{anAlt(c.p, aNum(0)), anAlt(anyPat(), aNum(0))})
			if ok != (c.want != "") || ok && treeText(got) != c.want || !ok && toldTree(got) != toldTree(impl.Tree{}) {
				t.Errorf("the tree of great pattern %d is %.300s and %v", i, toldTree(got), ok)
			}
			if got, ok := impl.Trees(list, []impl.Node{anAlt(anyPat(), aNum(0)), anAlt(round[1], aNum(0))}); !ok || treeText(got) != "0" {
				t.Errorf("ahead of a pattern within itself the tree is %.300s and %v", toldTree(got), ok)
			}
		}
		alts := slices.Repeat(alternativesRead("X; 1"), many)
		if got, ok := impl.Trees(list, append(alts, anAlt(anyPat(), aNum(0)))); !ok || treeText(got) != "[X@ 0 [1@ 1 200000]]" {
			t.Errorf("the tree of many alternatives is %.300s and %v", toldTree(got), ok)
		}
	})
	// One list may be the beginning of another one.
	kids := []impl.Node{anyPat(), conPat("Z")}
	wantNoTree(t, list, []impl.Node{anAlt(conPat("S", kids[:1]...), aNum(0)), anAlt(conPat("C", kids...), aNum(0))})
	wantNoTree(t, list, []impl.Node{anAlt(conPat("C", kids...), aNum(0)), anAlt(conPat("S", kids[:1]...), aNum(0))})
	if _, ok := holdTrees(t, list, []impl.Node{anAlt(conPat("S", kids[:1]...), aNum(0)), anAlt(conPat("S", kids[:1]...), aNum(0))}); !ok {
		t.Error("there is no tree of a list that is there twice")
	}
}
