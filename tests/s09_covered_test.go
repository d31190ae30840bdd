package tests

import (
	"slices"
	"strings"
	"testing"

	"loop.example/g00323/impl"
)

func wantCovered(t *testing.T, p impl.Prog, want bool) {
	t.Helper()
	if got := impl.Covered(p); got != want {
		t.Errorf("%.300s is covered: %v", impl.Write(p), got)
	}
	if got := coveredBy(p); got != want {
		t.Errorf("%.300s is covered by the second telling: %v", impl.Write(p), got)
	}
}

func coverProg(src string) impl.Prog {
	p, bad := impl.Parse(coverDatas + src)
	if bad != -1 {
		panic("no program: " + src)
	}
	return p
}

func TestCovered(t *testing.T) {
	for src, want := range map[string]bool{"1": true, "fun x -> x": true, "X": true, "case X of { X -> 1 }": false, "case X of { X -> 1; Y -> 2 }": true, "case X of { _ -> 1 }": true, "case 1 of { 1 -> 1 }": false, "case 1 of { 1 -> 1; x -> x }": true, "case 1 of { x -> x; 1 -> 1 }": true,
		"fun l -> case l of { E -> 0; C x t -> 1 }": true, "fun l -> case l of { E -> 0; C 0 t -> 1 }": false, "fun l -> case l of { C x E -> 0; C x (C y t) -> 1 }": false, "rec f l = case l of { E -> 0; C x t -> 1 + f t } in f E": true, "rec f l = case l of { C x t -> 1 + f t } in f E": false,
		// No types are asked for, and no names.
		"case q of { X -> 1; Y -> r }": true, "case 7 of { X -> 1; Y -> X + 1 }": true, "case X of { X -> 1; P -> 2 }": false, "case X of { X -> 1; Y -> 2; P -> 3 }": false, "case X of { Z -> 1 }": false, "case X of { Z -> 1; _ -> 2 }": true, "case P of { P -> 1; Q -> 2 }": false, "case P of { P -> 1; Q x x -> 2; Q x -> x }": true, "case X of { Y y y -> 1; y -> 2 }": true} {
		wantCovered(t, coverProg(src), want)
	}
	wantCovered(t, impl.Prog{Datas: datasOf("data A = X | Y; data A = X | Y;"), Main: coverProg("case X of { X -> 1; Y -> 2 }").Main}, true)
	wantCovered(t, impl.Prog{Main: coverProg("case X of { X -> 1; Y -> 2 }").Main}, false)
}

// Wherever a case is, it counts.
func TestCasesWithinCases(t *testing.T) {
	for _, about := range []string{"?", "fun x -> ?", "? 1", "1 ?", "let x = ? in 1", "let x = 1 in ?", "rec f x = ? in 1", "rec f x = 1 in ?", "if ? then 1 else 1", "if 1 then ? else 1", "if 1 then 1 else ?", "? + 1", "1 + ?", "? - 1", "1 - ?", "? * 1", "1 * ?", "? < 1", "1 < ?", "? == 1", "1 == ?", "put ?", "S ?", "C ? E", "C X ?", "T X ? Y",
		"case ? of { _ -> 1 }", "case 1 of { _ -> ? }", "case X of { X -> ?; Y -> 1 }", "case X of { X -> 1; Y -> ? }", "case X of { X -> 1; Y -> case P of { P -> 1; Q n -> ? } }", "case 1 of { 0 -> 1; 1 -> ?; _ -> 2 }", "fun x -> let y = C (case x of { N -> 0; S z -> ? }) E in put (1 + y)", "case 1 of { _ -> 1; _ -> ? }"} {
		for inner, want := range map[string]bool{"(case X of { X -> 1; Y -> 2 })": true, "(case X of { X -> 1 })": false, "(case 0 of { 0 -> 1; 1 -> 2 })": false, "(case 0 of { 0 -> 1; x -> 2 })": true, "(case X of { X -> case P of { P -> 0 }; Y -> 2 })": false, "(case case X of { Y -> 1 } of { x -> x })": false} {
			wantCovered(t, coverProg(strings.ReplaceAll(about, "?", inner)), want)
		}
	}
}

func TestWhatIsNotTidyIsNotCovered(t *testing.T) {
	wantCovered(t, impl.Prog{}, false)
	for _, p := range wrongProgs() {
		wantCovered(t, p, false)
	}
	deep := func(many int) impl.Prog {
		return onlyMain(chain(many-1, aNum(1), func(n impl.Node) impl.Node { return aFun("x", n) }))
	}
	wantCovered(t, deep(treeDeep), true)
	wantCovered(t, deep(treeDeep+1), false)
	self := make([]impl.Node, 1)
	self[0] = aFun("x", aNum(1))
	self[0].Kids = self
	wantCoveredQuickly(t, onlyMain(self[0]), false)
	loop := make([]impl.Node, 2)
	loop[0], loop[1] = aNum(1), anAlt(anyPat(), aNum(1))
	loop[1].Kids[1] = node(impl.NdCase, loop...)
	loop[1].Kids[1].Kids = loop
	wantCoveredQuickly(t, onlyMain(node(impl.NdCase, loop...)), false)
}

func wantCoveredQuickly(t *testing.T, p impl.Prog, want bool) {
	t.Helper()
	quickly(t, "Covered", func() {
		if got := impl.Covered(p); got != want {
			t.Errorf("a tree without end is covered: %v", got)
		}
	})
}

func TestCoveredOfTurnedPrograms(t *testing.T) {
	s := steps(95)
	met := map[bool]int{}
	untidy := 0
	for i := range 6000 {
		p := s.madeProg(1 + i%5)
		for left := s.below(3); left > 0; left-- {
			s.swappedNode(&p)
		}
		if i%4 == 0 {
			s.turned(&p)
		}
		want := coveredBy(p)
		wantCovered(t, p, want)
		met[want]++
		if !impl.Tidy(p) {
			untidy++
		}
	}
	if met[true] < 1000 || met[false] < 1000 || untidy < 300 {
		t.Errorf("programs are covered and not %v times, and %d are not tidy", met, untidy)
	}
}

// The steps: one for each row that is asked for, also for one without columns.

func columns(p impl.Node, many int) []impl.Node { return slices.Repeat([]impl.Node{p}, many) }

// wantSteps holds how many steps the second telling takes against what is wanted.
func wantSteps(t *testing.T, list []impl.Data, rows [][]impl.Node, row []impl.Node, want int) {
	t.Helper()
	if _, steps := usefulBy(list, rows, row); steps != min(want, coverMost+1) {
		t.Errorf("%d columns behind %d rows take %d steps, not %d", len(row), len(rows), steps, want)
	}
	wantUseful(t, list, rows, row, want > coverMost)
}

func TestStepsOfColumns(t *testing.T) {
	for _, pair := range [][2]impl.Node{{anyPat(), anyPat()}, {anyPat(), varPat("x")}, {varPat("y"), numPat(3)}, {numPat(3), numPat(3)}, {conPat("X"), conPat("X")}, {anyPat(), conPat("X")}, {conPat("I"), anyPat()}, {conPat("I"), conPat("I")}} {
		for _, many := range []int{0, 1, 2, coverMost - 2, coverMost - 1, coverMost, coverMost + 1, 2 * coverMost} {
			rows := [][]impl.Node{columns(pair[0], many)}
			wantSteps(t, datasOf(coverDatas), rows, columns(pair[1], many), many+1)
			wantSteps(t, datasOf(coverDatas), append(rows, rows...), columns(pair[1], many), many+1)
		}
	}
}

func TestStepsOfPatternsWithinPatterns(t *testing.T) {
	within := func(many int, leaf impl.Node) impl.Node {
		return chain(many, leaf, func(n impl.Node) impl.Node { return conPat("S", n) })
	}
	beside := func(many int, leaf impl.Node) impl.Node {
		return chain(many, leaf, func(n impl.Node) impl.Node { return conPat("C", numPat(1), n) })
	}
	for _, above := range []int{-2, -1, 0, 1, 2} {
		many := coverMost + above
		wantSteps(t, nil, [][]impl.Node{{anyPat()}}, []impl.Node{within(many-2, anyPat())}, many)
		wantSteps(t, nil, [][]impl.Node{{within(many-2, anyPat())}}, []impl.Node{within(many-2, anyPat())}, many)
		// Each con has a number, too; the first column is of no con.
		half := many / 2
		wantSteps(t, nil, [][]impl.Node{{anyPat(), beside(half-2, anyPat())}}, []impl.Node{anyPat(), beside(half-2, anyPat())}, 2*half-1)
		wantSteps(t, nil, [][]impl.Node{{anyPat(), anyPat()}}, []impl.Node{numPat(0), beside(half-2, conPat("N"))}, 2*half-1)
	}
}

// Each con of a data takes its own steps.
func TestStepsOfConsThatAreAllThere(t *testing.T) {
	list := datasOf(coverDatas)
	for _, ahead := range []int{0, 1, 2, 3} {
		for _, behind := range []int{0, 5, coverMost/2 - 3, coverMost/2 - 2, coverMost/2 - 1} {
			rows := [][]impl.Node{}
			for _, name := range []string{"X", "Y"} {
				rows = append(rows, slices.Concat(columns(anyPat(), ahead), []impl.Node{conPat(name)}, columns(anyPat(), behind)))
			}
			wantSteps(t, list, rows, columns(anyPat(), ahead+1+behind), ahead+1+2*(behind+1))
		}
	}
}

// A program of which one case takes just so many steps: five columns of X and Y, and others of anything.
func programOfSteps(ahead int) impl.Prog {
	const doubled, behind = 5, 123
	many := ahead + doubled + behind
	n := node(impl.NdCase, aVar("v"))
	for i := range doubled {
		for _, name := range []string{"X", "Y"} {
			kids := columns(anyPat(), many)
			kids[ahead+i] = conPat(name)
			n.Kids = append(n.Kids, anAlt(conPat("T", kids...), aNum(0)))
		}
	}
	types := slices.Repeat([]impl.Ty{dataTy("A")}, many)
	return impl.Prog{Datas: []impl.Data{oneData("A", 0, oneCon("X"), oneCon("Y")), oneData("T", 0, oneCon("T", types...))}, Main: n}
}

func TestStepsOfACase(t *testing.T) {
	for ahead := range 4 {
		p := programOfSteps(ahead)
		wantSteps(t, p.Datas, rowsOf(p.Main.Kids[1:]), []impl.Node{anyPat()}, coverMost+ahead)
		want := ahead == 0
		wantCovered(t, p, want)
		if got := impl.Missing(p.Datas, p.Main.Kids[1:]); got == want {
			t.Errorf("with %d columns ahead something is missed: %v", ahead, got)
		}
		// Each question has its own steps.
		q := p
		q.Main = aLet("x", p.Main, aLet("y", p.Main, aLet("z", p.Main, p.Main)))
		wantCovered(t, q, want)
	}
}

// What takes too many steps counts as useful, so that it is not idle.
func TestStepsOfAnAlternative(t *testing.T) {
	for _, above := range []int{-1, 0, 1, 2} {
		many := coverMost + above
		one := anAlt(conPat("W", columns(anyPat(), many-2)...), aNum(0))
		wantSteps(t, nil, rowsOf([]impl.Node{one}), []impl.Node{one.Kids[0]}, many)
		want := 1
		if above > 0 {
			want = -1
		}
		if got := impl.Idle(nil, []impl.Node{one, one}); got != want {
			t.Errorf("where the second one takes %d steps, the first idle one is %d", many, got)
		}
	}
}

// Idle asks anew for each alternative: numbers take two steps each, and all of them together more than there may be.
func TestStepsAreCountedAnew(t *testing.T) {
	var alts []impl.Node
	for n := range coverMost {
		alts = append(alts, anAlt(numPat(n), aNum(0)))
	}
	quickly(t, "Idle", func() {
		if got := impl.Idle(nil, append(slices.Clone(alts), anAlt(numPat(17), aNum(0)))); got != len(alts) {
			t.Errorf("the first idle one is %d", got)
		}
		if got := impl.Idle(nil, alts); got != -1 {
			t.Errorf("of numbers the first idle one is %d", got)
		}
	})
	for range 3 {
		wantSteps(t, nil, [][]impl.Node{columns(anyPat(), coverMost-1)}, columns(anyPat(), coverMost-1), coverMost)
	}
}

// What is useful is useful though other ways would take too many steps, and what is none is met or not.
func TestUsefulBehindManySteps(t *testing.T) {
	list := datasOf(coverDatas)
	long := columns(anyPat(), 2*coverMost)
	wantUseful(t, list, nil, long, true)
	wantUseful(t, list, nil, append(slices.Clone(long), impl.Node{}), true)
	wantUseful(t, list, nil, append([]impl.Node{{}}, long...), false)
	for _, many := range []int{coverMost - 2, coverMost - 1, coverMost, coverMost + 1} {
		wantUseful(t, list, nil, append(columns(anyPat(), many), impl.Node{}), many >= coverMost)
	}
}

// Large patterns, and patterns within themselves, are answered soon.
func TestGreatPatterns(t *testing.T) {
	const many = 100000
	list := datasOf(coverDatas)
	deep := chain(many, anyPat(), func(n impl.Node) impl.Node { return conPat("S", n) })
	wide := conPat("W", columns(conPat("S", conPat("S", anyPat())), many)...)
	self := []impl.Node{conPat("W"), anyPat(), numPat(0)}
	self[0].Kids = self
	round := columns(conPat("R"), 300)
	for i := range round {
		round[i].Kids = round
	}
	large := []impl.Node{deep, wide, self[0], round[0]}
	quickly(t, "a great pattern", func() {
		for i, a := range large {
			for j, b := range large {
				if got := impl.Useful(list, [][]impl.Node{{a}, {a}, {a}}, []impl.Node{b}); !got {
					t.Errorf("great pattern %d behind %d is not useful", j, i)
				}
			}
			if impl.Useful(list, [][]impl.Node{{a}, {anyPat()}}, []impl.Node{conPat("N")}) || !impl.Useful(list, [][]impl.Node{{conPat("N")}}, []impl.Node{a}) || !impl.Useful(list, [][]impl.Node{{anyPat()}}, []impl.Node{a}) {
				t.Errorf("great pattern %d is told otherwise", i)
			}
			alts := []impl.Node{anAlt(conPat("N"), aNum(0)), anAlt(a, aNum(0)), anAlt(a, aNum(1)), anAlt(anyPat(), aNum(2)), anAlt(a, aNum(3))}
			if impl.Missing(list, alts) || impl.Idle(list, alts) != -1 {
				t.Errorf("great pattern %d among others is told otherwise", i)
			}
		}
		rows := slices.Repeat([][]impl.Node{{conPat("C", numPat(1), conPat("E")), anyPat()}}, many)
		if impl.Useful(list, rows, []impl.Node{conPat("C", anyPat(), conPat("E")), anyPat()}) != true || impl.Useful(list, rows, rows[0]) {
			t.Error("many rows are told otherwise")
		}
	})
	args := []impl.Data{oneData("W", 0, oneCon("W", slices.Repeat([]impl.Ty{intTy()}, many)...))}
	quickly(t, "a con of many types", func() {
		for _, rows := range [][][]impl.Node{{{wide}}, {{wide}, {anyPat()}}, {{conPat("W")}}} {
			if !impl.Useful(args, rows, []impl.Node{anyPat()}) {
				t.Error("behind a con of many types anything is useless")
			}
		}
	})
}

func rowsWithRoom(rows [][]impl.Node) [][]impl.Node {
	var list [][]impl.Node
	for _, row := range rows {
		list = append(list, nodeWithRoom(impl.Node{Kids: row}).Kids)
	}
	return roomBehind(list, []impl.Node{aNum(76)})
}

func toldRowsWithRoom(rows [][]impl.Node) string {
	text := ""
	for _, row := range rows[:cap(rows)] {
		text += toldNodeWithRoom(impl.Node{Kids: row}) + "\n"
	}
	return text
}

// No argument is written into, nor the room behind it; asked again, the answer is the same.
func TestChapter9WritesNothing(t *testing.T) {
	s := steps(96)
	met := map[bool]int{}
	for i := range 5000 {
		m := newMaker(&s)
		types := []impl.Ty{m.groundTy(3), m.groundTy(2), m.groundTy(2)}[:1+i%3]
		rows, row := m.parted(types, s.below(8), 3), m.madeRows(types, 1, 3)[0]
		if i%2 == 0 {
			rows, row = s.randomRows(s.below(6), i%4, 2), s.randomRow(i%4, 2)
		}
		p := withRoom(s.madeProg(1 + s.below(4)))
		asked := rowsWithRoom(append(slices.Clone(rows), row))
		alts := nodeWithRoom(impl.Node{Kids: alternativesOf(rows)}).Kids
		kept := toldWithRoom(p) + toldRowsWithRoom(asked) + toldNodeWithRoom(impl.Node{Kids: alts})
		tell := func() (bool, bool, int, bool) {
			last := len(asked) - 1
			return impl.Useful(p.Datas, asked[:last], asked[last]), impl.Missing(p.Datas, alts), impl.Idle(p.Datas, alts), impl.Covered(p)
		}
		useful, missing, idle, covered := tell()
		if toldWithRoom(p)+toldRowsWithRoom(asked)+toldNodeWithRoom(impl.Node{Kids: alts}) != kept {
			t.Fatalf("%s is written into", kept)
		}
		again, missingAgain, idleAgain, coveredAgain := tell()
		want, _ := usefulBy(p.Datas, rows, row)
		if again != useful || missingAgain != missing || idleAgain != idle || coveredAgain != covered || useful != want {
			t.Fatalf("asked again, %s behind %s is told otherwise", toldRows(row), toldRows(rows...))
		}
		met[useful]++
	}
	if met[true] < 500 || met[false] < 500 {
		t.Errorf("rows are useful and not %v times", met)
	}
}

// All rows may share one memory, and one with the row.
func TestRowsThatShareMemory(t *testing.T) {
	list := datasOf(coverDatas)
	all := patternsRead("C X (C Y E); _; S (C _ E); 0; T X (Q 1) Y; x; C Y _; E")
	kept := told(impl.Node{Kids: all})
	for many := range 4 {
		var rows [][]impl.Node
		for at := 0; at+many <= len(all); at++ {
			rows = append(rows, all[at:at+many])
		}
		for i := range rows {
			for from := range i + 1 {
				want, _ := usefulBy(list, rows[from:i], rows[i])
				wantUseful(t, list, rows[from:i], rows[i], want)
			}
		}
	}
	alts := alternativesRead("C X E; C Y E; E; C _ (C _ _)")
	for i := range alts {
		alts[i].Kids[1] = alts[0].Kids[0]
	}
	if impl.Missing(list, alts) || impl.Idle(list, alts) != -1 || told(impl.Node{Kids: all}) != kept || told(alts[3].Kids[1]) != told(conPat("C", conPat("X"), conPat("E"))) {
		t.Error("a pattern is written into")
	}
}
