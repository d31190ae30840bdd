package impl

import (
	"slices"
	"strings"
	"testing"
)

// askTexts are what a row still asks, each with its path.
func askTexts(asks []ask) string {
	var texts []string
	for _, a := range asks {
		text := a.head.name
		if a.head.op == PtNum {
			text = Digits(a.head.n)
		}
		for _, i := range a.path {
			text += "." + Digits(i)
		}
		texts = append(texts, text)
	}
	return strings.Join(texts, " ")
}

func rowTexts(rows []candidate) string {
	var texts []string
	for _, row := range rows {
		texts = append(texts, Digits(row.alternative)+": "+askTexts(row.asks))
	}
	return strings.Join(texts, "; ")
}

func someRows() []candidate {
	one, any := Node{Op: PtNum, N: 1}, Node{Op: PtAny}
	con := func(name string, kids ...Node) Node { return Node{Op: PtCon, S: name, Kids: kids} }
	var rows []candidate
	for i, p := range []Node{con("T", one, con("S", one), one), con("T", any, con("S", any), any), con("T", any, con("N"), one), con("T", con("S", any), any, any), con("E"), one, any} {
		rows = append(rows, candidate{i, asksOf(p, nil)})
	}
	return rows
}

func wantRows(t *testing.T, rows []candidate, want string) {
	t.Helper()
	if got := rowTexts(rows); got != want {
		t.Errorf("rows are %q, not %q", got, want)
	}
}

// What is parted from rows leaves them, and what else is parted from them, as they are.
func TestRowsThatAreParted(t *testing.T) {
	rows := someRows()
	held, failed := parted(rows, rows[0].asks[0])
	wantRows(t, held, "0: 1.0 S.1 1.2; 1: S.1; 2: N.1 1.2; 3: S.0; 6: ")
	wantRows(t, failed, "4: E; 5: 1; 6: ")
	deeper, others := parted(held, held[1].asks[0])
	wantRows(t, deeper, "0: 1.0 1.1.0 1.2; 1: ; 3: S.0; 6: ")
	wantRows(t, others, "2: N.1 1.2; 3: S.0; 6: ")
	first, second := parted(held, held[0].asks[0])
	wantRows(t, first, "0: S.1 1.2; 1: S.1; 2: N.1 1.2; 6: ")
	wantRows(t, second, "1: S.1; 2: N.1 1.2; 3: S.0; 6: ")
	last, rest := parted(deeper, deeper[0].asks[2])
	wantRows(t, last, "0: 1.0 1.1.0; 1: ; 3: S.0; 6: ")
	wantRows(t, rest, "1: ; 3: S.0; 6: ")
	wantRows(t, deeper, "0: 1.0 1.1.0 1.2; 1: ; 3: S.0; 6: ")
	wantRows(t, held, "0: 1.0 S.1 1.2; 1: S.1; 2: N.1 1.2; 3: S.0; 6: ")
	wantRows(t, rows, "0: T; 1: T; 2: T; 3: T; 4: E; 5: 1; 6: ")
	numbers, none := parted(rows, rows[5].asks[0])
	wantRows(t, numbers, "5: ; 6: ")
	wantRows(t, none, "0: T; 1: T; 2: T; 3: T; 4: E; 6: ")
}

// As many trees as are left may be made, and not one more.
func TestTreesThatAreLeft(t *testing.T) {
	rows := someRows()
	for many := range len(rows) + 1 {
		whole := planting{left: MaxTrees}
		want, ok := whole.tree(rows[:many])
		needed := MaxTrees - whole.left
		if !ok || needed%2 == 0 {
			t.Fatalf("%d rows make %d trees", many, needed)
		}
		for left := range needed + 3 {
			p := planting{left: left}
			got, ok := p.tree(rows[:many])
			if ok != (left >= needed) || ok && p.left != left-needed || !ok && (got.Op != 0 || got.Kids != nil) {
				t.Errorf("%d rows make their %d trees of %d: %v", many, needed, left, ok)
			}
			if ok && RunTree(got, Value{Kind: VlInt, N: 1}) != RunTree(want, Value{Kind: VlInt, N: 1}) {
				t.Errorf("%d rows lead elsewhere", many)
			}
		}
	}
}

func TestPatternsOfAlternatives(t *testing.T) {
	p := Node{Op: PtNum, N: 4}
	if got, ok := patternsOf([]Node{{Op: NdAlt, Kids: []Node{p, {}}}, {Op: NdAlt, Kids: []Node{p}}}); !ok || len(got) != 2 || got[0].N != 4 || got[1].N != 4 {
		t.Errorf("patterns are %v and %v", got, ok)
	}
	for _, n := range []Node{{}, p, {Op: NdAlt}, {Op: NdCase, Kids: []Node{p, p}}} {
		if got, ok := patternsOf([]Node{{Op: NdAlt, Kids: []Node{p}}, n}); ok || got != nil {
			t.Errorf("with a node of kind %d patterns are %v and %v", n.Op, got, ok)
		}
	}
	if got, ok := patternsOf(nil); !ok || len(got) != 0 {
		t.Errorf("patterns of none are %v and %v", got, ok)
	}
}

// A part is of the value itself, and its copy is not.
func TestPartsAndCopies(t *testing.T) {
	v := Value{Kind: VlCon, S: "C", Kids: []Value{{Kind: VlInt, N: 1}, {Kind: VlCon, S: "S", Kids: []Value{{Kind: VlFun}}}}}
	part, ok := partAt(v, []int{1})
	if !ok || &part.Kids[0] != &v.Kids[1].Kids[0] {
		t.Error("a part is copied")
	}
	made := copiedValue(v)
	if ValueText(made) != ValueText(v) || &made.Kids[0] == &v.Kids[0] || &made.Kids[1].Kids[0] == &v.Kids[1].Kids[0] || !slices.Equal([]int{len(made.Kids), len(made.Kids[1].Kids)}, []int{2, 1}) {
		t.Errorf("a copy is %s", ValueText(made))
	}
}
