package impl

import (
	"errors"
	"slices"
	"testing"
)

// What is stuck is one thing, and what is out of fuel another one.
func TestErrorsOfEvaluation(t *testing.T) {
	num := Node{Op: NdNum, N: 1}
	for _, c := range []struct {
		n    Node
		fuel int
		want error
	}{{num, 1, nil}, {num, 0, errFuel}, {num, -1, errFuel}, {Node{Op: NdVar, S: "x"}, 1, errStuck}, {Node{Op: NdVar, S: "x"}, 0, errFuel}, {both(NdApp, num, num), 3, errStuck}, {both(NdApp, num, num), 2, errFuel}, {Node{Op: NdCon, S: "Q"}, 1, errStuck}, {Node{}, 9, errStuck}, {Node{}, 0, errStuck}} {
		e := evaluation{fuel: c.fuel}
		_, err := e.program(Prog{Main: c.n})
		if !errors.Is(err, c.want) || errors.Is(err, errStuck) && errors.Is(err, errFuel) {
			t.Errorf("a node of kind %d with fuel of %d ends with %v, not %v", c.n.Op, c.fuel, err, c.want)
		}
	}
}

// Sizes stop one above what may be, however often a value is shared.
func TestSizesOfMeanings(t *testing.T) {
	v, want := intMeaning(3), 1
	for range 200 {
		v, want = conMeaning("B", []meaning{v, v}), min(2*want+1, MaxValue+1)
		if v.size != want {
			t.Fatalf("a size is %d, not %d", v.size, want)
		}
	}
	for many, want := range map[int]int{0: 1, 1: 2, MaxValue - 1: MaxValue, MaxValue: MaxValue + 1, MaxValue + 1: MaxValue + 1, 3 * MaxValue: MaxValue + 1} {
		kids := make([]meaning, many)
		for i := range kids {
			kids[i] = functionMeaning(nil)
		}
		if got := conMeaning("W", kids).size; got != want {
			t.Errorf("with %d kids a size is %d, not %d", many, got, want)
		}
	}
}

// What is bound within leaves what is bound about it as it was.
func TestNamesThatAreBound(t *testing.T) {
	var none *names
	outer := none.with("x", intMeaning(1)).with("y", intMeaning(2))
	inner := outer.with("x", intMeaning(3))
	pattern := Node{Op: PtCon, S: "P", Kids: []Node{{Op: PtVar, S: "z"}, {Op: PtCon, S: "P", Kids: []Node{{Op: PtVar, S: "y"}, {Op: PtVar, S: "z"}}}, {Op: PtAny}, {Op: PtNum, N: 6}}}
	value := conMeaning("P", []meaning{intMeaning(4), conMeaning("P", []meaning{intMeaning(5), intMeaning(7)}), intMeaning(8), intMeaning(6)})
	matched := inner.withPattern(pattern, value)
	for _, c := range []struct {
		about *names
		name  string
		want  int
	}{{none, "x", 0}, {outer, "x", 1}, {outer, "y", 2}, {outer, "z", 0}, {inner, "x", 3}, {inner, "y", 2}, {matched, "x", 3}, {matched, "y", 5}, {matched, "z", 7}, {matched, "P", 0}} {
		got, err := c.about.bound(c.name)
		if c.want == 0 && !errors.Is(err, errStuck) || c.want > 0 && (err != nil || got.n != c.want) {
			t.Errorf("%s is bound to %d (%v), not %d", c.name, got.n, err, c.want)
		}
	}
}

// Values told and values at work fit the same patterns.
func TestShapesOfValues(t *testing.T) {
	for _, v := range []meaning{intMeaning(0), intMeaning(-7), truthMeaning(true), truthMeaning(false), functionMeaning(&closure{}), conMeaning("E", nil), conMeaning("C", []meaning{intMeaning(1), conMeaning("E", nil)})} {
		work, kids := workShape(v)
		told, toldKids := toldShape(v.told())
		if work != told || len(kids) != len(toldKids) {
			t.Errorf("at work a value is %v, and told %v", work, told)
		}
		for _, p := range []Node{{Op: PtAny}, {Op: PtVar, S: "x"}, {Op: PtNum}, {Op: PtNum, N: 1}, {Op: PtNum, N: -7}, {Op: PtCon, S: "E"}, {Op: PtCon, S: "C", Kids: []Node{{Op: PtNum, N: 1}, {Op: PtVar, S: "x"}}}, {Op: PtCon, S: "C", Kids: []Node{{Op: PtNum, N: 2}, {Op: PtVar, S: "x"}}}, {}} {
			if fits(p, v, workShape) != Fits(p, v.told()) {
				t.Errorf("a pattern of kind %d fits %s at work or told alone", p.Op, ValueText(v.told()))
			}
		}
	}
}

// A text is read as a con of its first byte, whose kids are all that is left of it without one more; `?` is none.
func topOfText(s string) (Value, []string, bool) {
	var kids []string
	for i := 1; i < len(s); i++ {
		kids = append(kids, s[i:])
	}
	return Value{Kind: VlCon, S: s[:1]}, kids, s[0] != '?'
}

// What is read tells how far it went, whatever it is read out of.
func TestReadOfTexts(t *testing.T) {
	for _, c := range []struct {
		text       string
		deep, left int
		want       string
		over       int
	}{
		{"a", 1, 1, "a", 0}, {"a", 0, 9, "", 9}, {"a", 1, 0, "", 0}, {"a", 9, 9, "a", 8},
		{"ab", 2, 2, "(a b)", 0}, {"ab", 1, 9, "", 8}, {"ab", 2, 1, "", 0},
		{"abc", 3, 4, "(a (b c) c)", 0}, {"abc", 3, 3, "", 0}, {"abc", 2, 9, "", 7},
		{"abcd", 4, 8, "(a (b (c d) d) (c d) d)", 0}, {"abcd", 4, 7, "", 0}, {"abcd", 3, 9, "", 6}, {"abcd", 200, 4000, "(a (b (c d) d) (c d) d)", 3992},
		{"?", 9, 9, "", 8}, {"?a", 9, 9, "", 8}, {"a?", 9, 9, "", 7}, {"ab?", 9, 9, "", 6}, {"a?b", 9, 9, "", 7},
	} {
		left := c.left
		v, ok := read(c.text, topOfText, c.deep, &left)
		if ok != (c.want != "") || ok && ValueText(v) != c.want || !ok && (v.Kind != 0 || v.S != "" || v.Kids != nil) {
			t.Errorf("read(%q) is %s and %v", c.text, ValueText(v), ok)
		}
		if left != c.over {
			t.Errorf("read(%q) leaves %d, not %d", c.text, left, c.over)
		}
	}
}

// What comes round to itself ends where so many are within each other, or where none are left.
func TestReadOfWhatHasNoEnd(t *testing.T) {
	for _, kids := range []int{1, 2, 20} {
		asked := 0
		left := MaxValue
		_, ok := read(kids, func(int) (Value, []int, bool) {
			asked++
			return Value{Kind: VlCon}, slices.Repeat([]int{kids}, kids), true
		}, MaxTy, &left)
		if ok || asked != MaxTy || left != MaxValue-MaxTy {
			t.Errorf("what has itself %d times is read %d times: %v", kids, asked, ok)
		}
	}
}
