package tests

import (
	"math"
	"slices"
	"strings"
	"testing"

	"loop.example/g00323/impl"
)

func wantFits(t *testing.T, p impl.Node, v impl.Value, want bool) {
	t.Helper()
	if got := impl.Fits(p, v); got != want {
		t.Errorf("%.300s fits %.300s: %v", nodeTextOrTold(p), toldValue(v), got)
	}
	if got := fitsBy(p, v); got != want {
		t.Errorf("%.300s fits %.300s by the second telling: %v", nodeTextOrTold(p), toldValue(v), got)
	}
}

// someValues are of each kind, right ones and others.
func someValues() []impl.Value {
	one := intValue(1)
	return []impl.Value{one, intValue(0), intValue(-1), intValue(greatest), intValue(greatest + 1), intValue(math.MinInt), funValue(), conValue("E"), conValue("N"), conValue(""), conValue("S", one), conValue("C", one, conValue("E")), conValue("C", one), conValue("Z", one, one, one), {}, {Kind: 4}, {Kind: -1, N: 1, S: "E"}, {Kind: math.MaxInt, Kids: []impl.Value{one}}, {N: 1}, {S: "E"}}
}

func TestPatternsThatFitAnything(t *testing.T) {
	for _, v := range someValues() {
		for _, p := range []impl.Node{anyPat(), varPat("x"), varPat(""), {Op: impl.PtAny, N: 7, S: "E", T: "t", Kids: []impl.Node{numPat(9)}}, {Op: impl.PtVar, N: 7, S: "x", Kids: []impl.Node{{}}}} {
			wantFits(t, p, v, true)
			wantFits(t, conPat("S", p), conValue("S", v), true)
		}
	}
}

func TestPatternsOfNumbers(t *testing.T) {
	for _, n := range []int{0, 1, -1, 7, greatest, least, greatest + 1, math.MaxInt, math.MinInt} {
		wantFits(t, numPat(n), intValue(n), true)
		wantFits(t, numPat(n), intValue(n+1), false)
		wantFits(t, numPat(n), intValue(n^1<<31), false)
		wantFits(t, numPat(n), impl.Value{Kind: impl.VlFun, N: n}, false)
		wantFits(t, numPat(n), impl.Value{Kind: impl.VlCon, N: n}, false)
		wantFits(t, numPat(n), impl.Value{Kind: 0, N: n}, false)
		wantFits(t, numPat(n), impl.Value{Kind: 4, N: n}, false)
		wantFits(t, conPat("S", numPat(n)), conValue("S", intValue(n)), true)
		wantFits(t, conPat("S", numPat(n)), conValue("S", intValue(n+1)), false)
	}
}

func TestPatternsOfCons(t *testing.T) {
	one, e := intValue(1), conValue("E")
	wantFits(t, conPat("E"), e, true)
	wantFits(t, conPat("E"), conValue("N"), false)
	wantFits(t, conPat("E"), conValue("E", one), false)
	wantFits(t, conPat("E", anyPat()), e, false)
	wantFits(t, conPat(""), conValue(""), true)
	wantFits(t, conPat("E"), impl.Value{Kind: impl.VlFun, S: "E"}, false)
	wantFits(t, conPat("E"), impl.Value{Kind: impl.VlInt, S: "E"}, false)
	wantFits(t, conPat("E"), impl.Value{Kind: 0, S: "E"}, false)
	wantFits(t, conPat("E"), impl.Value{Kind: 4, S: "E"}, false)
	for many := range 5 {
		for other := range 5 {
			wantFits(t, conPat("Q", columns(anyPat(), many)...), conValue("Q", slices.Repeat([]impl.Value{one}, other)...), many == other)
		}
	}
	// Each kid is asked, the first and the last one, too.
	for i := range 3 {
		kids := columns(numPat(1), 3)
		v := conValue("T", one, one, one)
		wantFits(t, conPat("T", kids...), v, true)
		kids[i] = numPat(2)
		wantFits(t, conPat("T", kids...), v, false)
		v.Kids[i] = intValue(2)
		wantFits(t, conPat("T", kids...), v, true)
		v.Kids[i] = funValue()
		wantFits(t, conPat("T", kids...), v, false)
	}
	list := conValue("C", intValue(3), conValue("C", intValue(4), e))
	for text, want := range map[string]bool{"_": true, "x": true, "E": false, "C _ _": true, "C 3 _": true, "C 4 _": false, "C x (C y E)": true, "C x (C 4 _)": true, "C x (C 3 _)": false, "C x E": false, "C x (C y (C z _))": false, "C _": false, "C _ _ _": false, "C (C _ _) _": false, "3": false, "Z": false, "C x (C x x)": true} {
		wantFits(t, patternsRead(text)[0], list, want)
	}
}

func TestFitsOfNodesThatAreNone(t *testing.T) {
	for _, p := range noPatterns() {
		for _, v := range someValues() {
			wantFits(t, p, v, false)
			wantFits(t, conPat("S", p), conValue("S", v), false)
			wantFits(t, conPat("C", anyPat(), p), conValue("C", v, v), false)
			wantFits(t, conPat("C", p, anyPat()), conValue("C", v, v), false)
		}
	}
}

// What a pattern or a value does not name turns nothing.
func TestFitsLooksAtWhatIsNamed(t *testing.T) {
	one := []impl.Value{intValue(1)}
	wantFits(t, impl.Node{Op: impl.PtNum, N: 1, S: "E", T: "t", Kids: []impl.Node{{}}}, intValue(1), true)
	wantFits(t, numPat(1), impl.Value{Kind: impl.VlInt, N: 1, S: "E", Kids: one}, true)
	wantFits(t, impl.Node{Op: impl.PtNum, N: 1, Kids: columns(numPat(3), 1)}, impl.Value{Kind: impl.VlInt, N: 1, S: "E", Kids: one}, true)
	wantFits(t, impl.Node{Op: impl.PtCon, N: 4, S: "S", T: "t", Kids: columns(numPat(1), 1)}, impl.Value{Kind: impl.VlCon, N: 5, S: "S", Kids: one}, true)
}

func TestFitsOfAllSmallPatterns(t *testing.T) {
	pats := append(patternsRead("_; x; 0; 1; N; S _; S 0; S N; S (S x); C _ _; C 0 E; C x (C y _); E; Z; Z 0"), noPatterns()[:3]...)
	values := append(someValues(), conValue("S", intValue(0)), conValue("S", conValue("N")), conValue("S", conValue("S", funValue())), conValue("C", intValue(0), conValue("E")), conValue("C", intValue(0), conValue("C", funValue(), conValue("E"))), conValue("Z", intValue(0)))
	for _, p := range pats {
		for _, v := range values {
			wantFits(t, p, v, fitsBy(p, v))
			for _, other := range pats {
				for _, w := range values {
					wantFits(t, conPat("C", p, other), conValue("C", v, w), fitsBy(p, v) && fitsBy(other, w))
				}
			}
		}
	}
}

func TestFitsOfRandomPatterns(t *testing.T) {
	s := steps(102)
	met := map[bool]int{}
	for i := range 20000 {
		v := s.randomValue(1 + i%5)
		p := s.patternLike(v)
		if i%2 == 0 {
			s.turnValue(&v)
		}
		want := fitsBy(p, v)
		wantFits(t, p, v, want)
		met[want]++
		if t.Failed() {
			return
		}
	}
	if met[true] < 5000 || met[false] < 3000 {
		t.Errorf("patterns fit and not %v times", met)
	}
}

// patternLike fits a value, but now and then.
func (s *steps) patternLike(v impl.Value) impl.Node {
	switch kind := s.below(12); {
	case kind == 0:
		return varPat("x")
	case kind <= 2:
		return anyPat()
	case kind == 3:
		return numPat(s.below(4))
	case v.Kind == impl.VlInt:
		return numPat(v.N)
	case v.Kind == impl.VlCon:
		p := conPat(v.S)
		for _, kid := range v.Kids {
			p.Kids = append(p.Kids, s.patternLike(kid))
		}
		return p
	}
	return anyPat()
}

func TestFitsOfGreatPatterns(t *testing.T) {
	const many = 100000
	round := []impl.Node{conPat("C"), conPat("C")}
	round[0].Kids, round[1].Kids = round, round
	self := []impl.Value{conValue("C"), conValue("C")}
	self[0].Kids, self[1].Kids = self, self
	deep := chain(many, numPat(1), func(n impl.Node) impl.Node { return conPat("S", n) })
	quickly(t, "Fits", func() {
		for _, c := range []struct {
			p    impl.Node
			v    impl.Value
			want bool
		}{{deep, withinCons(many, intValue(1)), true}, {deep, withinCons(many, intValue(2)), false}, {deep, withinCons(many-1, intValue(1)), false}, {anyPat(), withinCons(many, intValue(1)), true},
			{sharedPattern(200, numPat(1)), shared(200, intValue(1)), true}, {sharedPattern(200, numPat(1)), shared(200, intValue(2)), false}, {sharedPattern(200, numPat(1)), shared(199, intValue(1)), false}, {sharedPattern(199, anyPat()), shared(200, intValue(1)), true},
			{round[0], self[1], true}, {round[0], shared(200, intValue(1)), false}, {sharedPattern(200, anyPat()), self[0], true}, {sharedPattern(200, numPat(1)), self[0], false},
			{conPat("W", columns(numPat(1), many)...), conValue("W", slices.Repeat([]impl.Value{intValue(1)}, many)...), true}, {conPat("W", columns(numPat(1), many)...), conValue("W", append(slices.Repeat([]impl.Value{intValue(1)}, many-1), funValue())...), false}} {
			if got := impl.Fits(c.p, c.v); got != c.want {
				t.Errorf("a great pattern fits: %v", got)
			}
		}
	})
	// One list may be the beginning of another one.
	pats, values := []impl.Node{numPat(1), numPat(2)}, []impl.Value{intValue(1), intValue(3)}
	wantFits(t, conPat("C", conPat("S", pats[:1]...), conPat("C", pats...)), conValue("C", conValue("S", values[:1]...), conValue("C", values...)), false)
	wantFits(t, conPat("C", conPat("C", pats...), conPat("S", pats[:1]...)), conValue("C", conValue("C", values...), conValue("S", values[:1]...)), false)
	wantFits(t, conPat("C", conPat("S", pats[:1]...), conPat("S", pats[:1]...)), conValue("C", conValue("S", values[:1]...), conValue("S", values[:1]...)), true)
	wantFits(t, conPat("C", conPat("S", pats[:1]...), conPat("S", pats[:1]...)), conValue("C", conValue("S", values[:1]...), conValue("S", values[1:]...)), false)
}

// Promise 9, held against Fits itself: what misses nothing has something that fits each value of its type, what is idle is never the first that fits; and what misses something or is not idle has a value that shows it.
func TestWhatMissesNothingHasSomethingThatFits(t *testing.T) {
	s := steps(103)
	m := newMaker(&s)
	met := map[bool]int{}
	idle := map[bool]int{}
	for i := range 4000 {
		deep := 1 + i%3
		types := append(m.someTypes(1, deep), intTy())[:1]
		rows := m.parted(types, 1+s.below(8), deep)
		switch i % 3 {
		case 1:
			at := s.below(len(rows))
			rows = slices.Delete(rows, at, at+1)
		case 2:
			rows = slices.Insert(rows, s.below(len(rows)+1), m.madeRows(types, 1+s.below(2), deep)...)
		}
		alts := alternativesOf(rows)
		first := make([]int, len(alts)+1)
		for values := range tuplesOf(m.datas, types, deep) {
			fitting := slices.IndexFunc(alts, func(alt impl.Node) bool { return impl.Fits(alt.Kids[0], values[0]) })
			first[(fitting+len(first))%len(first)]++
		}
		missing, never := first[len(alts)] > 0, slices.Index(first[:len(alts)], 0)
		if impl.Missing(m.datas, alts) != missing || impl.Idle(m.datas, alts) != never {
			t.Fatalf("of %s something of %s fits none: %v, and %d is never the first that fits", toldRows(rows...), toldTy(types[0]), missing, never)
		}
		met[missing]++
		idle[never >= 0]++
	}
	if met[true] < 500 || met[false] < 1000 || idle[true] < 200 || idle[false] < 1000 {
		t.Errorf("alternatives miss something and not %v times, and are idle and not %v times", met, idle)
	}
}

func valueWithRoom(v impl.Value) impl.Value {
	made := impl.Value{Kind: v.Kind, N: v.N, S: strings.Clone(v.S)}
	for _, kid := range v.Kids {
		made.Kids = append(made.Kids, valueWithRoom(kid))
	}
	made.Kids = roomBehind(made.Kids, intValue(78))
	return made
}

func toldValueWithRoom(v impl.Value) string {
	text := toldValue(impl.Value{Kind: v.Kind, N: v.N, S: v.S})
	for _, kid := range v.Kids[:cap(v.Kids)] {
		text += toldValueWithRoom(kid)
	}
	return text + "."
}

// No argument is written into, nor the room behind it; asked again, the answer is the same.
func TestValuesAreNotWrittenInto(t *testing.T) {
	s := steps(104)
	for i := range 5000 {
		v := s.randomValue(1 + i%5)
		pattern := nodeWithRoom(s.patternLike(v))
		for left := s.below(3); left > 0; left-- {
			s.turnValue(&v)
		}
		v = valueWithRoom(v)
		p := withRoom(impl.Prog{Datas: datasOf(valueDatas)})
		kept := toldValueWithRoom(v) + toldNodeWithRoom(pattern) + toldWithRoom(p)
		text, ok, fit := impl.ValueText(v), impl.ValueOk(p.Datas, v), impl.Fits(pattern, v)
		if toldValueWithRoom(v)+toldNodeWithRoom(pattern)+toldWithRoom(p) != kept {
			t.Fatalf("%s is written into", kept)
		}
		if impl.ValueText(v) != text || impl.ValueOk(p.Datas, v) != ok || impl.Fits(pattern, v) != fit || ok != valueOkBy(p.Datas, v, tyMost) || fit != fitsBy(pattern, v) {
			t.Fatalf("asked again, %s is told otherwise", toldValue(v))
		}
	}
}
