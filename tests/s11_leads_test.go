package tests

import (
	"slices"
	"testing"

	"loop.example/g00323/impl"
)

// Promise 11: the tree of cases leads to the first one that fits.

// holdLeads holds where a tree leads against Fits; the value must be ValueOk, since a tree tells no number of kids.
func holdLeads(t *testing.T, list []impl.Data, alts []impl.Node, tree impl.Tree, v impl.Value) int {
	t.Helper()
	if !impl.ValueOk(list, v) {
		t.Fatalf("%s is not right", toldValue(v))
	}
	want := firstByFits(alts, v)
	if got := impl.RunTree(tree, v); got != want || runTreeBy(tree, v) != want {
		t.Fatalf("the tree %s of %s leads %s to %d, not to %d", treeText(tree), toldRows(patternsBy(alts)...), impl.ValueText(v), got, want)
	}
	return want
}

// strangers are values of many types, most of which are not what is asked for. Datas must have the cons of valueDatas or none.
func strangers(list []impl.Data) []impl.Value {
	var right []impl.Value
	for _, v := range append(someValues(), conValue("U"), conValue("V", intValue(1)), conValue("W", conValue("U")), conValue("P", intValue(0), conValue("N")), conValue("C", conValue("N"), conValue("N")), conValue("S", funValue()), conValue("X"), conValue("Y"), conValue("G")) {
		if impl.ValueOk(list, v) {
			right = append(right, v)
		}
	}
	return right
}

// leadsOf counts to which alternatives a tree leads; -1 is where none fits.
type leadsOf map[int]int

func (l leadsOf) none() bool { return l[-1] > 0 }

func (l leadsOf) alternatives() int {
	many := len(l)
	if l.none() {
		many--
	}
	return many
}

// Alternatives of a type, against all values that they can tell apart, and against values of other types.
func TestTreesLeadToTheFirstThatFits(t *testing.T) {
	s := steps(112)
	m := newMaker(&s)
	met, refused := map[bool]int{}, 0
	many := map[int]int{}
	for i := range 5000 {
		deep := 1 + i%3
		types := append(m.someTypes(1, deep), intTy())[:1]
		var rows [][]impl.Node
		switch i % 4 {
		case 0:
			rows = m.madeRows(types, s.below(6), deep)
		case 1:
			rows = m.parted(types, 1+s.below(8), deep)
		case 2:
			rows = m.parted(types, 1+s.below(8), deep)
			at := s.below(len(rows))
			rows = slices.Delete(rows, at, at+1)
		default:
			rows = m.parted(types, 1+s.below(8), deep)
			rows = slices.Insert(rows, s.below(len(rows)+1), m.madeRows(types, 1+s.below(3), deep)...)
		}
		alts := alternativesOf(rows)
		tree, ok := holdTrees(t, m.datas, alts)
		if !ok {
			refused++
			continue
		}
		leads := leadsOf{}
		for values := range tuplesOf(m.datas, types, deep) {
			leads[holdLeads(t, m.datas, alts, tree, values[0])]++
		}
		if leads.none() != impl.Missing(m.datas, alts) {
			t.Fatalf("%s leads to none: %v", treeText(tree), leads.none())
		}
		for _, v := range strangers(m.datas) {
			holdLeads(t, m.datas, alts, tree, v)
		}
		met[leads.none()]++
		many[min(leads.alternatives(), 4)]++
	}
	if met[true] < 700 || met[false] < 2000 || many[1] < 700 || many[2] < 700 || many[3] < 600 || many[4] < 300 || refused > 100 {
		t.Errorf("trees lead to none and not %v times, to so many %v, and %d are too many", met, many, refused)
	}
}

// All alternatives of a few small patterns, one to three behind each other, against all small values.
func TestTreesOfAllSmallPatterns(t *testing.T) {
	list := datasOf(valueDatas)
	pats := patternsRead("_; x; 0; 1; N; E; S _; S 0; S N; S (S x); C _ _; C 0 E; C x (C y _); C 1 x; C N _; T 0 _ 1; T _ N _")
	small := []impl.Value{intValue(0), intValue(1), intValue(2), funValue(), conValue("N"), conValue("E")}
	values := slices.Clone(small)
	for _, a := range small {
		values = append(values, conValue("S", a), conValue("S", conValue("S", a)))
		for _, b := range append(small, conValue("C", a, a), conValue("S", a)) {
			values = append(values, conValue("C", a, b), conValue("C", b, a), conValue("T", a, b, a), conValue("T", b, a, b))
		}
	}
	met := leadsOf{}
	var grow func(alts []impl.Node)
	grow = func(alts []impl.Node) {
		tree, ok := holdTrees(t, list, alts)
		if !ok {
			t.Fatalf("there is no tree of %s", toldRows(rowsOf(alts)...))
		}
		for _, v := range values {
			met[holdLeads(t, list, alts, tree, v)]++
		}
		if len(alts) == 3 {
			return
		}
		for _, p := range pats {
			grow(append(slices.Clone(alts), anAlt(p, aNum(0))))
		}
	}
	grow(nil)
	for at := -1; at < 3; at++ {
		if met[at] < 50000 {
			t.Errorf("trees lead only %d times to %d", met[at], at)
		}
	}
}

// Alternatives that are like some values, against these, against them turned, and against others.
func TestTreesOfRandomPatterns(t *testing.T) {
	s := steps(113)
	list := datasOf(valueDatas)
	met := leadsOf{}
	refused := 0
	for i := range 6000 {
		var values []impl.Value
		var alts []impl.Node
		for range 1 + s.below(8) {
			v := s.randomValue(1 + i%5)
			values = append(values, v)
			alts = append(alts, anAlt(s.patternLike(v), aNum(0)))
			for left := s.below(3); left > 0; left-- {
				w := valueWithRoom(v)
				s.turnValue(&w)
				values = append(values, w)
			}
		}
		for range 5 {
			values = append(values, s.randomValue(1+s.below(5)))
		}
		tree, ok := holdTrees(t, list, alts)
		if !ok {
			refused++
			continue
		}
		for _, v := range values {
			if impl.ValueOk(list, v) {
				met[holdLeads(t, list, alts, tree, v)]++
			} else if got := impl.RunTree(tree, v); got != runTreeBy(tree, v) {
				t.Fatalf("the tree %s leads %s to %d", treeText(tree), toldValue(v), got)
			}
		}
	}
	for at := -1; at < 5; at++ {
		if met[at] < 1000 {
			t.Errorf("trees lead only %d times to %d", met[at], at)
		}
	}
	if refused > 200 {
		t.Errorf("%d trees are too many", refused)
	}
}

// Each case of a program that has types, against values of what it asks and of other types.
func TestTreesOfMadePrograms(t *testing.T) {
	s := steps(114)
	cases := 0
	for i := range 3000 {
		p := s.madeProg(1 + i%5)
		typed, how := impl.Infer(p)
		if how != impl.IfDone {
			t.Fatal("no types are found")
		}
		for _, part := range typedIn(&typed) {
			if part.Op != impl.NdCase {
				continue
			}
			alts := impl.Erase(*part).Kids[1:]
			tree, ok := holdTrees(t, p.Datas, alts)
			if !ok || !impl.TreeOk(p.Datas, tree) {
				t.Fatalf("there is no tree of %s", toldRows(rowsOf(alts)...))
			}
			for _, v := range strangers(p.Datas) {
				holdLeads(t, p.Datas, alts, tree, v)
			}
			ty := withoutVars(part.Kids[0].Ty)
			if howManyOf(p.Datas, []impl.Ty{ty}, 3, 500) > 500 {
				continue
			}
			for values := range tuplesOf(p.Datas, []impl.Ty{ty}, 3) {
				holdLeads(t, p.Datas, alts, tree, values[0])
			}
			cases++
		}
	}
	if cases < 1000 {
		t.Errorf("only %d cases are held", cases)
	}
}

// asNode is an expression that means a value without functions.
func asNode(v impl.Value) impl.Node {
	if v.Kind == impl.VlInt {
		return aNum(v.N)
	}
	n := aCon(v.S)
	for _, kid := range v.Kids {
		n.Kids = append(n.Kids, asNode(kid))
	}
	return n
}

// What a case means is the body of the alternative to which its tree leads.
func TestTreesLeadWhereEvalGoes(t *testing.T) {
	s := steps(115)
	m := newMaker(&s)
	met := map[int]int{}
	for i := range 2000 {
		deep := 1 + i%3
		types := append(m.someTypes(1, deep), intTy())[:1]
		alts := alternativesOf(m.madeRows(types, 1+s.below(5), deep))
		tree, ok := impl.Trees(m.datas, alts)
		if !ok {
			continue
		}
		for values := range tuplesOf(m.datas, types, 1) {
			if slices.ContainsFunc(valuesIn(&values[0]), func(v *impl.Value) bool { return v.Kind == impl.VlFun }) {
				continue
			}
			r := impl.Eval(impl.Prog{Datas: m.datas, Main: node(impl.NdCase, append([]impl.Node{asNode(values[0])}, alts...)...)}, fuelMost)
			want := -1
			if r.Code == impl.EvDone {
				want = r.Value.N
			}
			if got := impl.RunTree(tree, values[0]); got != want {
				t.Fatalf("%s leads %s to %d, and Eval goes to %d", treeText(tree), impl.ValueText(values[0]), got, want)
			}
			met[want]++
		}
	}
	for at := -1; at < 3; at++ {
		if met[at] < 200 {
			t.Errorf("cases lead only %d times to %d", met[at], at)
		}
	}
}
