package tests

import (
	"math"
	"slices"
	"strconv"
	"testing"

	"loop.example/g00323/impl"
)

const coverDatas = "data A = X | Y; data B = P | Q Int; data O a = N | S a; data L a = E | C a (L a); data T = T A B A; data I = I; "

func TestNumbersOfChapter9(t *testing.T) {
	if impl.MaxCover != coverMost {
		t.Errorf("MaxCover is %d", impl.MaxCover)
	}
}

// wantUseful holds the second telling, too.
func wantUseful(t *testing.T, list []impl.Data, rows [][]impl.Node, row []impl.Node, want bool) {
	t.Helper()
	if got := impl.Useful(list, rows, row); got != want {
		t.Errorf("%.300s behind %.300s is useful: %v", toldRows(row), toldRows(rows...), got)
	}
	if got, _ := usefulBy(list, rows, row); got != want {
		t.Errorf("%.300s behind %.300s is useful by the second telling: %v", toldRows(row), toldRows(rows...), got)
	}
}

// wantUsefulRows has the rows as texts, and what is wanted of each row that is asked.
func wantUsefulRows(t *testing.T, rows string, want map[string]bool) {
	t.Helper()
	for row, useful := range want {
		wantUseful(t, datasOf(coverDatas), rowsRead(rows), rowsRead(row)[0], useful)
	}
}

func TestRowsWithoutColumns(t *testing.T) {
	for _, list := range [][]impl.Data{nil, datasOf(coverDatas)} {
		for _, row := range [][]impl.Node{nil, {}} {
			wantUseful(t, list, nil, row, true)
			wantUseful(t, list, [][]impl.Node{}, row, true)
			wantUseful(t, list, [][]impl.Node{nil}, row, false)
			wantUseful(t, list, [][]impl.Node{{}, nil, {}}, row, false)
		}
	}
}

func TestRowsBehindNone(t *testing.T) {
	for _, row := range []string{"_", "x", "0", "X", "S _", "S (S (S 3))", "_ x 0 X", "(C 0 (C _ E)) (Q 1)", "Z", "Z Z", "(Z 0 1)"} {
		for _, list := range [][]impl.Data{nil, datasOf(coverDatas)} {
			wantUseful(t, list, nil, rowsRead(row)[0], true)
		}
	}
}

func TestRowsOfAnything(t *testing.T) {
	for _, rows := range []string{"_", "x", "_; x", "0; _", "y; 0", "X; Y; z", "X; x", "5; (S 1); y"} {
		wantUsefulRows(t, rows, map[string]bool{"_": false, "x": false, "q": false, "0": false, "7": false, "X": false, "(S 0)": false, "(S _)": false, "Z": false, "(C 1 x)": false})
	}
	wantUsefulRows(t, "_ 0", map[string]bool{"_ 0": false, "x 0": false, "X 0": false, "1 0": false, "_ 1": true, "_ _": true, "0 x": true, "(S 0) 0": false, "(S 0) 1": true})
	wantUsefulRows(t, "0 _", map[string]bool{"_ 0": true, "0 _": false, "0 5": false, "0 (S x)": false, "1 0": true, "x x": true})
}

// Numbers are never all there.
func TestRowsOfNumbers(t *testing.T) {
	wantUsefulRows(t, "0; 1; 2", map[string]bool{"_": true, "x": true, "0": false, "1": false, "2": false, "3": true, "1073741823": true, "X": true})
	wantUsefulRows(t, "0; 1; _", map[string]bool{"_": false, "0": false, "3": false})
	wantUsefulRows(t, "0 0; 0 1; 1 _", map[string]bool{"0 0": false, "0 1": false, "0 2": true, "0 _": true, "1 _": false, "1 0": false, "_ 0": true, "_ _": true, "2 0": true})
	wantUsefulRows(t, "0 0; 0 x; _ 0", map[string]bool{"0 _": false, "_ 0": false, "0 7": false, "7 0": false, "7 7": true, "_ _": true})
	many := make([][]impl.Node, 3000)
	for n := range many {
		many[n] = []impl.Node{numPat(n)}
	}
	wantUseful(t, nil, many, []impl.Node{anyPat()}, true)
	wantUseful(t, nil, many, []impl.Node{numPat(2999)}, false)
	wantUseful(t, nil, many, []impl.Node{numPat(3000)}, true)
	// Numbers that no program has are held against each other as they are.
	odd := []int{-1, 0, 1, 1 << 32, 1<<32 + 1, math.MinInt, math.MaxInt, greatest + 1}
	for _, a := range odd {
		for _, b := range odd {
			wantUseful(t, nil, [][]impl.Node{{numPat(a)}}, []impl.Node{numPat(b)}, a != b)
		}
	}
}

func TestRowsOfCons(t *testing.T) {
	wantUsefulRows(t, "X", map[string]bool{"X": false, "Y": true, "_": true, "x": true, "P": true, "0": true})
	wantUsefulRows(t, "X; Y", map[string]bool{"X": false, "Y": false, "_": false, "x": false})
	wantUsefulRows(t, "Y; X; X", map[string]bool{"X": false, "Y": false, "_": false, "x": false})
	wantUsefulRows(t, "I", map[string]bool{"I": false, "_": false})
	wantUsefulRows(t, "P; (Q 0)", map[string]bool{"P": false, "(Q 0)": false, "(Q 1)": true, "(Q _)": true, "_": true})
	wantUsefulRows(t, "P; (Q _)", map[string]bool{"P": false, "(Q 0)": false, "(Q x)": false, "_": false})
	wantUsefulRows(t, "P; (Q 0); (Q x)", map[string]bool{"(Q 1)": false, "(Q x)": false, "_": false})
	wantUsefulRows(t, "(Q x)", map[string]bool{"P": true, "(Q 1)": false, "_": true})
}

func TestPatternsWithinPatterns(t *testing.T) {
	wantUsefulRows(t, "E; (C N _); (C (S 0) _)", map[string]bool{"_": true, "(C _ _)": true, "(C (S 0) E)": false, "(C (S 1) E)": true, "(C N (C _ _))": false})
	wantUsefulRows(t, "E; (C _ E); (C X (C _ _)); (C Y (C X _)); (C Y (C Y E))", map[string]bool{"_": true, "(C Y (C Y (C x y)))": true, "(C Y (C Y _))": true, "(C X _)": false, "(C Y (C X (C Y E)))": false, "(C _ (C Y E))": false, "(C _ (C _ E))": false})
	wantUsefulRows(t, "E; (C _ E); (C X (C _ _)); (C Y (C X _)); (C Y (C Y _))", map[string]bool{"_": false, "(C Y (C Y (C x y)))": false})
	wantUsefulRows(t, "(S (S (S X))); (S (S (S Y))); (S (S N)); (S N)", map[string]bool{"_": true, "N": true, "(S _)": false, "(S (S (S _)))": false})
	wantUsefulRows(t, "(T X P _); (T X _ X); (T Y _ _); (T X (Q _) Y)", map[string]bool{"_": false, "(T X (Q 3) Y)": false, "(T _ _ _)": false})
	wantUsefulRows(t, "(T X P _); (T X _ X); (T Y _ _); (T X (Q 7) Y)", map[string]bool{"_": true, "(T X (Q 3) Y)": true, "(T X (Q 7) _)": false, "(T Y (Q 3) Y)": false})
}

func TestRowsOfSeveralColumns(t *testing.T) {
	wantUsefulRows(t, "X X; Y Y", map[string]bool{"X X": false, "Y Y": false, "X Y": true, "Y X": true, "_ X": true, "_ Y": true, "X _": true, "_ _": true})
	wantUsefulRows(t, "X X; Y Y; X Y; Y X", map[string]bool{"_ _": false, "x y": false, "_ X": false, "Y _": false})
	wantUsefulRows(t, "X _; _ X", map[string]bool{"Y Y": true, "_ Y": true, "Y _": true, "_ X": false, "X _": false, "_ _": true})
	wantUsefulRows(t, "X _; _ X; Y Y", map[string]bool{"_ _": false})
	wantUsefulRows(t, "_ X; _ Y", map[string]bool{"_ _": false, "X _": false, "0 _": false, "(S 1) _": false})
	wantUsefulRows(t, "X 0 P; _ 1 (Q 2); Y _ _", map[string]bool{"X 0 P": false, "X 0 (Q 2)": true, "X 1 (Q 2)": false, "X 1 P": true, "Y 9 P": false, "_ _ _": true, "_ 1 (Q 2)": false, "_ 0 P": false, "_ 2 P": true})
	wantUsefulRows(t, "(S X) P N; (S Y) P N; N _ _; _ (Q _) _; _ _ (S _)", map[string]bool{"_ _ _": false, "(S _) P N": false})
	wantUsefulRows(t, "(S X) P N; (S Y) (Q 1) N; N _ _; _ (Q 0) _; _ _ (S _)", map[string]bool{"_ _ _": true, "(S Y) P N": true, "(S X) P N": false, "(S X) (Q 1) N": true, "(S Y) (Q x) N": true, "(S Y) (Q 1) _": false})
}

// The cons of one data are no cons of another one, and rows may begin with both.
func TestConsOfSeveralDatas(t *testing.T) {
	wantUsefulRows(t, "X; P", map[string]bool{"_": true, "X": false, "P": false, "Y": true, "(Q _)": true})
	wantUsefulRows(t, "X; Y; P", map[string]bool{"_": true, "X": false, "Y": false, "P": false, "(Q 1)": true})
	wantUsefulRows(t, "P; X; Y", map[string]bool{"_": true})
	wantUsefulRows(t, "X; Y; P; (Q _)", map[string]bool{"_": true, "(Q 0)": false})
	wantUsefulRows(t, "X; Y; Z", map[string]bool{"_": true, "Z": false})
	wantUsefulRows(t, "X; Y; P; _", map[string]bool{"_": false, "(Q 0)": false, "0": false})
	// Beside numbers, cons that are all of a data are that.
	wantUsefulRows(t, "X; 0; Y; 1", map[string]bool{"_": false, "0": false, "2": true})
	// Each column has its own.
	wantUsefulRows(t, "X P; X (Q _); Y _", map[string]bool{"_ _": false, "_ P": false, "_ (Q _)": false})
	wantUsefulRows(t, "X P; X (Q 1); Y _", map[string]bool{"_ _": true, "_ P": false, "_ (Q _)": true, "_ (Q 1)": false})
}

// Which data has just these cons counts, whatever stands ahead of it.
func TestConsThatSeveralDatasHave(t *testing.T) {
	list := datasOf("data A = X | Y | Z; data B = X; data C = X | Y; data D = Y Int | W;")
	both := rowsRead("X; Y")
	for _, c := range []struct {
		rows [][]impl.Node
		want bool
	}{{rowsRead("X"), false}, {both, false}, {rowsRead("X; Y; Z"), false}, {rowsRead("Y"), true}, {rowsRead("X; Z"), true}, {rowsRead("(Y _); W"), false}, {rowsRead("Y; W"), true}, {rowsRead("(Y 1); W"), true}} {
		wantUseful(t, list, c.rows, []impl.Node{anyPat()}, c.want)
	}
	wantUseful(t, list[:1], both, []impl.Node{anyPat()}, true)
	wantUseful(t, list[:2], both, []impl.Node{anyPat()}, true)
	wantUseful(t, list[1:], both, []impl.Node{anyPat()}, false)
	twice := datasOf("data A = X | Y | X; data B = P | P Int;")
	wantUseful(t, twice, both, []impl.Node{anyPat()}, false)
	wantUseful(t, twice, rowsRead("X"), []impl.Node{anyPat()}, true)
	wantUseful(t, twice, rowsRead("P; (P _)"), []impl.Node{anyPat()}, false)
	wantUseful(t, twice, rowsRead("P"), []impl.Node{anyPat()}, true)
}

// A data without cons has none that rows could begin with.
func TestDatasWithoutConsCoverNothing(t *testing.T) {
	empty := oneData("V", 0)
	for _, list := range [][]impl.Data{{empty}, {{}}, {empty, oneData("A", 0, oneCon("X"), oneCon("Y"))}, {oneData("A", 0, oneCon("X"), oneCon("Y")), empty}} {
		for _, row := range []string{"_", "x", "0", "X"} {
			wantUseful(t, list, nil, rowsRead(row)[0], true)
		}
		wantUseful(t, list, rowsRead("0"), []impl.Node{anyPat()}, true)
		wantUseful(t, list, rowsRead("X"), []impl.Node{anyPat()}, true)
		wantUseful(t, list, rowsRead("_"), []impl.Node{anyPat()}, false)
		wantUseful(t, list, rowsRead("X; Y"), []impl.Node{anyPat()}, len(list) == 1)
	}
	wantUseful(t, []impl.Data{oneData("N", 0, oneCon(""))}, [][]impl.Node{{conPat("")}}, []impl.Node{anyPat()}, false)
	wantUseful(t, []impl.Data{oneData("N", 0, oneCon(""))}, nil, []impl.Node{anyPat()}, true)
}

func TestConsOfNoData(t *testing.T) {
	for _, list := range [][]impl.Data{nil, datasOf(coverDatas)} {
		wantUseful(t, list, rowsRead("Z"), rowsRead("Z")[0], false)
		wantUseful(t, list, rowsRead("Z"), rowsRead("_")[0], true)
		wantUseful(t, list, rowsRead("Z; W"), rowsRead("_")[0], true)
		wantUseful(t, list, rowsRead("Z; W"), rowsRead("V")[0], true)
		wantUseful(t, list, rowsRead("(Z 0 _)"), rowsRead("(Z 0 5)")[0], false)
		wantUseful(t, list, rowsRead("(Z 0 _)"), rowsRead("(Z 1 5)")[0], true)
		wantUseful(t, list, rowsRead("(Z 0 _); (Z _ 5)"), rowsRead("(Z _ _)")[0], true)
		wantUseful(t, list, rowsRead("(Z 0 _); _"), rowsRead("(Z _ _)")[0], false)
	}
	wantUseful(t, nil, rowsRead("X; Y"), rowsRead("_")[0], true)
}

// A con fits values with as many kids as it has there, and no others.
func TestConsWithOtherThanTheirKids(t *testing.T) {
	wantUsefulRows(t, "(X 0)", map[string]bool{"X": true, "(X 0)": false, "(X _)": true, "(X 0 0)": true, "_": true})
	wantUsefulRows(t, "P; Q", map[string]bool{"_": true, "Q": false, "(Q 0)": true, "(Q _ _)": true, "P": false})
	wantUsefulRows(t, "P; (Q _ _)", map[string]bool{"_": true, "Q": true, "(Q 0)": true, "(Q 1 1)": false})
	wantUsefulRows(t, "P; Q; (Q x)", map[string]bool{"_": false, "(Q 0)": false})
	wantUsefulRows(t, "(X _); Y; X", map[string]bool{"_": false})
	wantUsefulRows(t, "(X _); Y; _", map[string]bool{"_": false, "X": false, "(X 1 2 3)": false})
	wantUsefulRows(t, "X 0; (X _) _; Y _", map[string]bool{"_ _": true, "X 0": false, "X 1": true, "(X 1) 1": false, "_ 0": false})
	wantUsefulRows(t, "(S Q); N; (S P)", map[string]bool{"_": true, "(S (Q 1))": true, "(S P)": false, "(S Q)": false})
	alts := alternativesRead("X; Y 0")
	if list := datasOf(coverDatas); !impl.Missing(list, alts) || impl.Idle(list, alts) != -1 || !impl.Missing(list, alternativesRead("P; Q")) {
		t.Error("a con with other than its kids fits what its data has")
	}
}

// noPatterns are nodes of which no value fits one.
func noPatterns() []impl.Node {
	list := []impl.Node{{}, {Op: -1}, {Op: impl.PtCon + 1, S: "X"}, {Op: math.MaxInt}, {Op: math.MinInt}, {S: "X"}, {N: 3}, aCon("X"), aNum(0), aVar("x"), {Op: impl.NdAlt, Kids: []impl.Node{anyPat(), aNum(0)}}}
	for op := impl.NdNum; op < impl.PtAny; op++ {
		list = append(list, node(op), node(op, anyPat()))
	}
	return list
}

func TestPatternsThatAreNone(t *testing.T) {
	list := datasOf(coverDatas)
	for _, p := range noPatterns() {
		// No value fits it: it is not useful, whatever is ahead of it and beside it.
		for _, rows := range []string{"", "_", "X", "X; Y", "0", "(S _)"} {
			wantUseful(t, list, rowsRead(rows), []impl.Node{p}, false)
		}
		wantUseful(t, list, nil, []impl.Node{p, anyPat()}, false)
		wantUseful(t, list, nil, []impl.Node{anyPat(), p}, false)
		wantUseful(t, list, rowsRead("X 0; Y 0"), []impl.Node{anyPat(), p}, false)
		wantUseful(t, list, nil, []impl.Node{conPat("S", p)}, false)
		wantUseful(t, list, nil, []impl.Node{conPat("S", conPat("Z", anyPat(), p)), numPat(1)}, false)
		// It takes nothing from what comes behind it.
		one := [][]impl.Node{{p}}
		for _, row := range []string{"_", "x", "0", "X", "(S _)", "Z"} {
			wantUseful(t, list, one, rowsRead(row)[0], true)
			wantUseful(t, nil, append(one, one...), rowsRead(row)[0], true)
		}
		wantUseful(t, list, append(rowsRead("X"), one...), rowsRead("_")[0], true)
		wantUseful(t, list, append(rowsRead("X; Y"), one...), rowsRead("_")[0], false)
		wantUseful(t, list, append(rowsRead("_"), one...), rowsRead("_")[0], false)
		wantUseful(t, list, [][]impl.Node{{conPat("X")}, {conPat("Y", p)}}, rowsRead("_")[0], true)
		wantUseful(t, list, [][]impl.Node{{conPat("P")}, {conPat("Q", p)}}, rowsRead("_")[0], true)
		wantUseful(t, list, [][]impl.Node{{conPat("P")}, {conPat("Q", p)}, {conPat("Q", anyPat())}}, rowsRead("_")[0], false)
		wantUseful(t, list, [][]impl.Node{{anyPat(), p}}, rowsRead("_ _")[0], true)
	}
}

// What a pattern does not name turns nothing: its kids, its number and its texts.
func TestWhatPatternsDoNotName(t *testing.T) {
	odd := func(p impl.Node, kids ...impl.Node) impl.Node {
		switch p.Op {
		case impl.PtNum:
			p.S, p.T, p.Kids = "X", "y", kids
		case impl.PtCon:
			p.N, p.T = 7, "y"
		default:
			p.N, p.S, p.T, p.Kids = 7, "X", "y", kids
		}
		return p
	}
	list := datasOf(coverDatas)
	pats := patternsRead("_; x; 0; 1; X; Y; P; S _; S 0; S X; N")
	kids := [][]impl.Node{nil, {{}}, {anyPat(), anyPat()}, {conPat("X"), numPat(3)}}
	for _, a := range pats {
		for _, b := range pats {
			want := impl.Useful(list, [][]impl.Node{{a}}, []impl.Node{b})
			for i := range kids {
				wantUseful(t, list, [][]impl.Node{{odd(a, kids[i]...)}}, []impl.Node{b}, want)
				wantUseful(t, list, [][]impl.Node{{a}}, []impl.Node{odd(b, kids[i]...)}, want)
				wantUseful(t, list, [][]impl.Node{{odd(a, kids[i]...)}}, []impl.Node{odd(b, kids[len(kids)-1-i]...)}, want)
			}
		}
	}
	for _, row := range [][]impl.Node{{odd(numPat(0), impl.Node{})}, {odd(anyPat(), impl.Node{})}, {odd(varPat("x"), impl.Node{})}} {
		wantUseful(t, list, nil, row, true)
	}
	// A number and a con without a name have a head each.
	wantUseful(t, list, [][]impl.Node{{conPat("")}}, []impl.Node{numPat(0)}, true)
	wantUseful(t, list, [][]impl.Node{{numPat(0)}}, []impl.Node{conPat("")}, true)
}

func TestRowsThatAreNotAsLong(t *testing.T) {
	list := datasOf(coverDatas)
	for _, c := range []struct{ rows, row string }{{"_", "."}, {".", "_"}, {".", "X"}, {"X; .", "Y"}, {".; X", "Y"}, {"X; Y Y", "_"}, {"X X", "_"}, {"X", "_ _"}, {"X X; Y", "P P"}, {"0; 1; 2 2", "3"}, {"0 0 0", "1 1"}, {"_ _; _; _ _", "_ _"}, {"(S 0)", "S 0"}} {
		wantUseful(t, list, rowsRead(c.rows), rowsRead(c.row)[0], false)
		wantUseful(t, nil, rowsRead(c.rows), rowsRead(c.row)[0], false)
	}
	// It counts ahead of the steps, wherever the row is.
	long := slices.Repeat([]impl.Node{anyPat()}, 3*coverMost)
	rows := slices.Repeat([][]impl.Node{long}, 9)
	wantUseful(t, list, rows, long, true)
	for i := range rows {
		for _, other := range [][]impl.Node{nil, long[1:], append(slices.Clone(long), anyPat())} {
			turned := slices.Clone(rows)
			turned[i] = other
			wantUseful(t, list, turned, long, false)
		}
	}
}

func TestMissing(t *testing.T) {
	list := datasOf(coverDatas)
	for text, want := range map[string]bool{"": true, "_": false, "x": false, "X": true, "X; Y": false, "Y; X": false, "X; X": true, "0; 1; 2": true, "0; x": false, "E; C N t; C (S 0) t": true, "E; C x t": false, "C N E; C (S x) E; C _ (C _ _); E": false, "C N E; C (S x) E; C _ (C _ _)": true,
		"T X P X; T X P Y; T X (Q _) _; T Y _ X; T Y _ Y": false, "T X P X; T X P Y; T X (Q 0) _; T Y _ X; T Y _ Y": true, "Z": true, "X; Y; P": true, "X; Y; 0": false, "I": false, "N; S N; S (S N)": true, "N; S N; S (S _)": false} {
		alts := alternativesRead(text)
		if got := impl.Missing(list, alts); got != want || missingBy(list, alts) != want {
			t.Errorf("%s misses something: %v", text, got)
		}
	}
	if !impl.Missing(nil, nil) || !impl.Missing(nil, alternativesRead("X; Y")) || impl.Missing(nil, alternativesRead("X; _")) {
		t.Error("without datas, alternatives are told otherwise")
	}
}

func TestIdle(t *testing.T) {
	list := datasOf(coverDatas)
	for text, want := range map[string]int{"": -1, "_": -1, "X": -1, "X; Y": -1, "X; Y; _": 2, "X; Y; X": 2, "X; X": 1, "_; _": 1, "x; X": 1, "1; x; _": 2, "E; E; _": 1, "0; 1; 0": 2, "0; 1; 2; 3": -1, "0; _; 1; _": 2, "X; Y; _; _": 2, "P; Q 0; Q _; Q 0; _": 3, "P; Q 0; Q _; _": 3, "P; Q 0; _; Q _": 3,
		"C _ E; E; C X (C _ _); C Y (C _ _); C _ _": 4, "C _ E; E; C X (C _ _); C _ _; C Y (C _ _)": 4, "N; S X; S Y; S _; N": 3, "Z; Z": 1, "Z; W": -1, "X; Y; P; _": -1, "X; Y; 0; _": 3} {
		alts := alternativesRead(text)
		if got := impl.Idle(list, alts); got != want || idleBy(list, alts) != want {
			t.Errorf("of %s the first idle one is %d, not %d", text, got, want)
		}
	}
	if impl.Idle(nil, nil) != -1 || impl.Idle(nil, alternativesRead("X; Y; _")) != -1 || impl.Idle(nil, alternativesRead("X; Y; _; _")) != 3 {
		t.Error("without datas, alternatives are told otherwise")
	}
}

// The first alternative is idle only where nothing fits it.
func TestTheFirstIsIdle(t *testing.T) {
	list := datasOf(coverDatas)
	behind := alternativesRead("X; Y")
	for _, p := range noPatterns() {
		for at := range 3 {
			alts := slices.Insert(slices.Clone(behind), at, anAlt(p, aNum(0)))
			if got := impl.Idle(list, alts); got != at || idleBy(list, alts) != at {
				t.Errorf("with %s at %d the first idle one is %d", told(p), at, got)
			}
			if impl.Missing(list, alts) {
				t.Errorf("with %s at %d something is missed", told(p), at)
			}
		}
		if got := impl.Idle(list, []impl.Node{anAlt(conPat("S", p), aNum(0)), anAlt(p, aNum(0))}); got != 0 || !impl.Missing(list, []impl.Node{anAlt(p, aNum(0))}) {
			t.Errorf("of %s alone the first idle one is %d", told(p), got)
		}
	}
}

// An alternative is its first kid; one without kids has nothing that fits.
func TestAlternativesThatAreNone(t *testing.T) {
	list := datasOf(coverDatas)
	alts := alternativesRead("X; Y; _")
	for op := -1; op <= impl.PtCon+1; op++ {
		var turned []impl.Node
		for i, alt := range alts {
			turned = append(turned, impl.Node{Op: op, N: i, S: "X", T: "y", Kids: append(slices.Clone(alt.Kids[:1]), slices.Repeat([]impl.Node{{Op: op}}, i)...)})
		}
		if impl.Missing(list, turned) || impl.Idle(list, turned) != 2 || !impl.Missing(list, turned[:1]) || impl.Idle(list, turned[:2]) != -1 {
			t.Errorf("alternatives of kind %d are told otherwise", op)
		}
		for at := range 3 {
			none := slices.Insert(slices.Clone(turned[:2]), at, impl.Node{Op: op})
			if impl.Missing(list, none) || impl.Idle(list, none) != at {
				t.Errorf("with one without kids at %d, alternatives of kind %d are told otherwise", at, op)
			}
		}
		if !impl.Missing(list, []impl.Node{{Op: op}}) || impl.Idle(list, []impl.Node{{Op: op}, {Op: op}}) != 0 {
			t.Errorf("alternatives of kind %d without kids are told otherwise", op)
		}
	}
}

// randomRow has patterns right and wrong, of few names, so that they meet.
func (s *steps) randomRow(columns, deep int) []impl.Node {
	row := make([]impl.Node, columns)
	for i := range row {
		switch kind := s.below(12); {
		case kind < 2:
			row[i] = anyPat()
		case kind < 4:
			row[i] = varPat(s.pick("x", "y"))
		case kind < 6:
			row[i] = numPat(s.below(3) - s.below(2))
		case kind == 6 && s.below(4) == 0:
			row[i] = impl.Node{Op: s.below(24) - 1, S: "X"}
		default:
			name := s.pick("X", "Y", "P", "Q", "Q", "N", "S", "S", "I", "Z")
			many := 0
			if name == "Q" || name == "S" {
				many = 1
			}
			if s.below(12) == 0 {
				many = s.below(3)
			}
			if deep > 0 {
				row[i] = conPat(name, s.randomRow(many, deep-1)...)
			} else {
				row[i] = conPat(name, slices.Repeat([]impl.Node{anyPat()}, many)...)
			}
		}
	}
	return row
}

func (s *steps) randomRows(many, columns, deep int) [][]impl.Node {
	rows := make([][]impl.Node, many)
	for i := range rows {
		rows[i] = s.randomRow(columns, deep)
		if s.below(60) == 0 {
			rows[i] = s.randomRow(s.below(4), deep)
		}
	}
	return rows
}

func TestUsefulOfRandomRows(t *testing.T) {
	s := steps(94)
	met := map[bool]int{}
	for i := range 40000 {
		list := datasOf(coverDatas)
		for left := s.below(3); left > 0; left-- {
			list = s.turnDatas(list)
		}
		columns := s.below(4)
		rows, row := s.randomRows(s.below(7), columns, i%3), s.randomRow(columns, i%2)
		want, _ := usefulBy(list, rows, row)
		wantUseful(t, list, rows, row, want)
		met[want]++
		alts := alternativesOf(s.randomRows(s.below(6), 1, i%3))
		if got := impl.Missing(list, alts); got != missingBy(list, alts) {
			t.Errorf("%s misses something: %v", toldRows(patternsBy(alts)...), got)
		}
		if got := impl.Idle(list, alts); got != idleBy(list, alts) {
			t.Errorf("of %s the first idle one is %d", toldRows(patternsBy(alts)...), got)
		}
		if t.Failed() {
			t.Fatal(i, toldDatas(list))
		}
	}
	if met[true] < 5000 || met[false] < 5000 {
		t.Errorf("rows are useful and not %v times", met)
	}
}

// Datas that are not right are asked for their cons all the same.
func TestDatasThatAreNotRightAreAsked(t *testing.T) {
	for text, want := range map[string]bool{"data A = X | Y; data A = P;": false, "data A a = X (A Int Int) | Y;": true, "data A = Y U | X; data B = Y;": true} {
		list := datasOf(text)
		if impl.CheckDatas(list) == impl.DtDone {
			t.Fatal(text)
		}
		wantUseful(t, list, rowsRead("X; Y"), []impl.Node{anyPat()}, want)
	}
	many := []impl.Data{oneData("M", -1, consNamed(10*consMost, "C")...)}
	var rows [][]impl.Node
	for i := range 10 * consMost {
		wantUseful(t, many, rows, []impl.Node{anyPat()}, true)
		rows = append(rows, []impl.Node{conPat("C" + strconv.Itoa(i))})
	}
	wantUseful(t, many, rows, []impl.Node{anyPat()}, false)
}
