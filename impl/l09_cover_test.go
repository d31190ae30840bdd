package impl

import (
	"slices"
	"testing"
)

// flattened are the numbers of a line's patterns, from the first one on.
func flattened(l *line) []int {
	var numbers []int
	for ; l != nil; l = l.behind {
		for _, p := range l.list {
			numbers = append(numbers, p.N)
		}
	}
	return numbers
}

func numbered(numbers ...int) []Node {
	var list []Node
	for _, n := range numbers {
		list = append(list, Node{Op: PtNum, N: n})
	}
	return list
}

func wantLine(t *testing.T, l *line, want ...int) {
	t.Helper()
	if got := flattened(l); !slices.Equal(got, want) {
		t.Errorf("a line is %v, not %v", got, want)
	}
	for ; l != nil; l = l.behind {
		if len(l.list) == 0 {
			t.Error("a list of a line is empty")
		}
	}
}

// What is cut from one line leaves it, and what else is cut from it, as they are.
func TestLinesThatAreCut(t *testing.T) {
	whole := lineOf(numbered(1, 2, 3), nil)
	deeper := whole.cut(numbered(4, 5))
	one, other, none := deeper.cut(numbered(6, 7)), deeper.cut(numbered(8)), deeper.cut(nil)
	last := none.cut(nil)
	more, again := last.cut(numbered(9)), last.cut(numbered(10))
	wantLine(t, whole, 1, 2, 3)
	wantLine(t, deeper, 4, 5, 2, 3)
	wantLine(t, one, 6, 7, 5, 2, 3)
	wantLine(t, other, 8, 5, 2, 3)
	wantLine(t, none, 5, 2, 3)
	wantLine(t, last, 2, 3)
	wantLine(t, more, 9, 3)
	wantLine(t, again, 10, 3)
	wantLine(t, last.cut(nil).cut(nil))
	wantLine(t, lineOf(nil, nil))
	wantLine(t, lineOf(numbered(1), nil).cut(numbered(2)).cut(numbered(3, 4)), 3, 4)
	if l := again.cut(nil); l.first().N != 3 || one.first().N != 6 {
		t.Error("another pattern is the first one")
	}
}

func TestHeadsOfPatterns(t *testing.T) {
	kids := numbered(1, 2)
	for _, c := range []struct {
		p    Node
		want head
		ok   bool
	}{{Node{Op: PtCon, S: "X", N: 3, T: "t", Kids: kids}, head{op: PtCon, name: "X", many: 2}, true}, {Node{Op: PtCon, S: "X"}, head{op: PtCon, name: "X"}, true}, {Node{Op: PtNum, N: 3, S: "X", Kids: kids}, head{op: PtNum, n: 3}, true},
		{Node{Op: PtAny, N: 3, S: "X", Kids: kids}, head{}, false}, {Node{Op: PtVar, S: "x"}, head{}, false}, {Node{}, head{}, false}, {Node{Op: NdCon, S: "X"}, head{}, false}, {Node{Op: NdNum, N: 3}, head{}, false}} {
		if got, ok := headOf(c.p); got != c.want || ok != c.ok {
			t.Errorf("the head of kind %d is %v and %v", c.p.Op, got, ok)
		}
	}
}

// More of them are made where they are wanted, and those that were told stay.
func TestPatternsOfAnything(t *testing.T) {
	var c coverage
	for _, many := range []int{0, 3, 1, 5, 0, 2, 40} {
		list := c.anythings(many)
		if len(list) != many || cap(list) != many || slices.ContainsFunc(list, func(p Node) bool { return p.Op != PtAny || p.Kids != nil }) {
			t.Errorf("%d PtAnys are %v", many, list)
		}
	}
}
