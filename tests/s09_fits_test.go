package tests

import (
	"slices"
	"testing"

	"loop.example/g00323/impl"
)

// Promise 9, held against values: all of them that patterns of some types can tell apart.

// madeRows are rows of patterns of these types.
func (m maker) madeRows(types []impl.Ty, many, deep int) [][]impl.Node {
	rows := make([][]impl.Node, many)
	for i := range rows {
		var named []known
		for _, ty := range types {
			rows[i] = append(rows[i], m.patternFor(ty, &named, deep))
		}
	}
	return rows
}

// parted are rows that miss nothing of these types: each is cut into several ones, over and over again.
func (m maker) parted(types []impl.Ty, cuts, deep int) [][]impl.Node {
	rows := [][]impl.Node{slices.Repeat([]impl.Node{anyPat()}, len(types))}
	for range cuts {
		i := m.below(len(rows))
		var parts [][]impl.Node
		if c := m.below(max(len(types), 1)); c < len(types) {
			for _, p := range m.cutInto(rows[i][c], types[c], deep) {
				row := slices.Clone(rows[i])
				row[c] = p
				parts = append(parts, row)
			}
		}
		if len(parts) > 0 {
			rows = slices.Replace(rows, i, i+1, parts...)
		}
	}
	return rows
}

// cutInto are patterns that fit together just what one fits, the first one that fits counting.
func (m maker) cutInto(p impl.Node, ty impl.Ty, deep int) []impl.Node {
	switch {
	case p.Op == impl.PtAny && ty.Op == impl.TyInt && deep > 0:
		return []impl.Node{numPat(m.below(numbersAsked)), anyPat()}
	case p.Op == impl.PtAny && ty.Op == impl.TyData && deep > 0:
		var list []impl.Node
		for _, c := range m.datas[dataBy(m.datas, ty.S)].Cons {
			list = append(list, conPat(c.Name, slices.Repeat([]impl.Node{anyPat()}, len(c.Args))...))
		}
		return list
	case p.Op == impl.PtCon && len(p.Kids) > 0:
		data, con := impl.ConOf(m.datas, p.S)
		i := m.below(len(p.Kids))
		var list []impl.Node
		for _, kid := range m.cutInto(p.Kids[i], argsOf(m.datas[data].Cons[con], ty)[i], deep-1) {
			part := copiedNode(p)
			part.Kids[i] = kid
			list = append(list, part)
		}
		return list
	}
	return []impl.Node{p}
}

// someTypes are types of columns of which all values can be gone through.
func (m maker) someTypes(most, deep int) []impl.Ty {
	for {
		types := make([]impl.Ty, m.below(most+1))
		for i := range types {
			types[i] = m.groundTy(1 + m.below(3))
		}
		if howManyOf(m.datas, types, deep, 3000) <= 3000 {
			return types
		}
	}
}

func newMaker(s *steps) maker { return maker{steps: s, datas: datasOf(madeDatas)} }

// alternativesOf has an alternative without kids for a row without columns.
func alternativesOf(rows [][]impl.Node) []impl.Node {
	var alts []impl.Node
	for i, row := range rows {
		alt := node(impl.NdAlt)
		if len(row) > 0 {
			alt = anAlt(row[0], aNum(i))
		}
		alts = append(alts, alt)
	}
	return alts
}

// holdUseful holds one row behind others against all values of the types.
func holdUseful(t *testing.T, m maker, types []impl.Ty, rows [][]impl.Node, row []impl.Node, deep int) bool {
	t.Helper()
	want := false
	for values := range tuplesOf(m.datas, types, deep) {
		want = want || allFit(row, values) && firstThatFits(rows, values) == len(rows)
	}
	if got := impl.Useful(m.datas, rows, row); got != want {
		t.Fatalf("%s behind %s is useful: %v", toldRows(row), toldRows(rows...), got)
	}
	return want
}

func TestUsefulIsWhetherSomeValuesFit(t *testing.T) {
	s := steps(91)
	m := newMaker(&s)
	met := map[bool]int{}
	columns := map[int]int{}
	for i := range 6000 {
		deep := 1 + i%3
		types := m.someTypes(4, deep)
		rows := m.madeRows(types, s.below(6), deep)
		if i%2 == 0 {
			rows = m.parted(types, s.below(6), deep)
			for left := s.below(2); left > 0 && len(rows) > 0; left-- {
				rows = slices.Delete(rows, 0, 1)
			}
		}
		row := m.madeRows(types, 1, 1+s.below(deep))[0]
		met[holdUseful(t, m, types, rows, row, deep)]++
		columns[len(types)]++
	}
	if met[true] < 1500 || met[false] < 1500 {
		t.Errorf("rows are useful and not %v times", met)
	}
	for many := range 5 {
		if columns[many] < 100 {
			t.Errorf("only %d rows have %d columns", columns[many], many)
		}
	}
}

// holdAlternatives holds what Missing and Idle tell against all values of a type.
func holdAlternatives(t *testing.T, datas []impl.Data, ty impl.Ty, alts []impl.Node, deep int) (bool, int) {
	t.Helper()
	rows := rowsOf(alts)
	first := make([]int, len(alts)+1)
	for values := range tuplesOf(datas, []impl.Ty{ty}, deep) {
		first[firstThatFits(rows, values)]++
	}
	missing := first[len(alts)] > 0
	if got := impl.Missing(datas, alts); got != missing {
		t.Fatalf("%s miss something of %s: %v", toldRows(rows...), toldTy(ty), got)
	}
	idle := slices.Index(first[:len(alts)], 0)
	if got := impl.Idle(datas, alts); got != idle {
		t.Fatalf("of %s the first idle one is %d, not %d", toldRows(rows...), got, idle)
	}
	return missing, idle
}

// Promise 9: what misses nothing has something that fits each value, what is idle is never the first that fits; and what misses something or is not idle has a value that shows it.
func TestWhatMissesNothingFitsEachValue(t *testing.T) {
	s := steps(92)
	m := newMaker(&s)
	met := map[bool]int{}
	idle := map[int]int{}
	for i := range 8000 {
		deep := 1 + i%3
		types := m.someTypes(1, deep)
		if len(types) == 0 {
			types = []impl.Ty{intTy()}
		}
		var rows [][]impl.Node
		switch i % 4 {
		case 0:
			rows = m.madeRows(types, 1+s.below(5), deep)
		case 1:
			rows = m.parted(types, 1+s.below(8), deep)
		case 2:
			rows = m.parted(types, 1+s.below(8), deep)
			at := s.below(len(rows))
			rows = slices.Delete(rows, at, at+1)
		default:
			rows = m.parted(types, 1+s.below(8), deep)
			rows = slices.Insert(rows, s.below(len(rows)+1), m.madeRows(types, 1, deep)...)
		}
		missing, k := holdAlternatives(t, m.datas, types[0], alternativesOf(rows), deep)
		if i%4 == 1 && missing {
			t.Fatalf("%s are parts of all", toldRows(rows...))
		}
		met[missing]++
		idle[k]++
	}
	if met[true] < 1000 || met[false] < 1500 || idle[-1] < 2000 || idle[1] < 100 || idle[2] < 100 || idle[3] < 50 || idle[0] > 0 {
		t.Errorf("alternatives miss something and not %v times, and are idle %v times", met, idle)
	}
}

// All patterns that are at most two deep, in all pairs, and in threes of a smaller type.
func TestAlternativesOfAllSmallPatterns(t *testing.T) {
	datas := datasOf("data O a = N | S a; data B = T | F;")
	for _, c := range []struct {
		ty   string
		pats []impl.Node
		many int
	}{{"O B", patternsRead("_; x; N; S _; S x; S T; S F"), 3}, {"B", patternsRead("_; y; T; F"), 5}, {"Int", patternsRead("_; x; 0; 1; 2"), 4},
		{"O (O Int)", patternsRead("_; N; S x; S N; S (S x); S (S 0); S (S 1); S (S 2)"), 3}, {"Int -> B", patternsRead("_; x"), 3}} {
		ty := tyOf(c.ty)
		var grow func(alts []impl.Node)
		grow = func(alts []impl.Node) {
			holdAlternatives(t, datas, ty, alts, 3)
			if len(alts) == c.many {
				return
			}
			for _, p := range c.pats {
				grow(append(slices.Clone(alts), anAlt(p, aNum(0))))
			}
		}
		grow(nil)
	}
}

// Each case of a program that has types is held against the values of what it asks.
func TestCasesOfMadePrograms(t *testing.T) {
	s := steps(93)
	met := map[bool]int{}
	cases := 0
	for i := range 4000 {
		p := s.madeProg(1 + i%5)
		typed, how := impl.Infer(p)
		if how != impl.IfDone {
			t.Fatal("no types are found")
		}
		missing := false
		for _, part := range typedIn(&typed) {
			if part.Op != impl.NdCase {
				continue
			}
			ty := withoutVars(part.Kids[0].Ty)
			if howManyOf(p.Datas, []impl.Ty{ty}, 3, 5000) > 5000 {
				missing = missing || impl.Missing(p.Datas, impl.Erase(*part).Kids[1:])
				continue
			}
			one, _ := holdAlternatives(t, p.Datas, ty, impl.Erase(*part).Kids[1:], 3)
			missing = missing || one
			cases++
		}
		if got := impl.Covered(p); got == missing {
			t.Fatalf("%s is covered: %v", impl.Write(p), got)
		}
		met[missing]++
	}
	if met[true] < 300 || met[false] < 300 || cases < 1500 {
		t.Errorf("%d cases are held; programs miss something and not %v times", cases, met)
	}
}

// withoutVars has Int in the place of each var.
func withoutVars(ty impl.Ty) impl.Ty {
	var s []impl.Bind
	for _, n := range freeVarsBy(ty) {
		s = append(s, impl.Bind{N: n, Ty: intTy()})
	}
	return applyBy(s, ty)
}
