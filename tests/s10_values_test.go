package tests

import (
	"math"
	"slices"
	"strconv"
	"strings"
	"testing"

	"loop.example/g00323/impl"
)

const (
	fuelMost  = 4000
	valueMost = 4000
)

func TestNumbersOfChapter10(t *testing.T) {
	for i, got := range []int{impl.EvDone, impl.EvFuel, impl.EvStuck} {
		if got != i {
			t.Errorf("the code of number %d is %d", i, got)
		}
	}
	for i, got := range []int{impl.VlInt, impl.VlCon, impl.VlFun} {
		if got != i+1 {
			t.Errorf("the kind of number %d is %d", i+1, got)
		}
	}
	if impl.MaxFuel != fuelMost || impl.MaxValue != valueMost {
		t.Errorf("MaxFuel is %d, and MaxValue is %d", impl.MaxFuel, impl.MaxValue)
	}
}

func funValue() impl.Value { return impl.Value{Kind: impl.VlFun} }

// toldValue writes every field of a value, so that two texts are one only where the values are.
func toldValue(v impl.Value) string {
	text := "{" + strconv.Itoa(v.Kind) + " " + strconv.Itoa(v.N) + " " + strconv.Quote(v.S)
	for _, kid := range v.Kids {
		text += " " + toldValue(kid)
	}
	return text + "}"
}

// valueTextBy puts brackets and blanks about all, and takes away what is too much.
func valueTextBy(v impl.Value) string {
	switch v.Kind {
	case impl.VlInt:
		return strconv.Itoa(v.N)
	case impl.VlCon:
		words := []string{v.S}
		for _, kid := range v.Kids {
			words = append(words, valueTextBy(kid))
		}
		if len(words) == 1 {
			return v.S
		}
		return "(" + strings.Join(words, " ") + ")"
	}
	return "fun"
}

func wantValueText(t *testing.T, v impl.Value, want string) {
	t.Helper()
	if got := impl.ValueText(v); got != want {
		t.Errorf("ValueText(%s) is %q, not %q", toldValue(v), got, want)
	}
	if got := valueTextBy(v); got != want {
		t.Errorf("the second telling of ValueText(%s) is %q, not %q", toldValue(v), got, want)
	}
}

func TestValueTextOfInts(t *testing.T) {
	for n, want := range map[int]string{0: "0", 7: "7", -1: "-1", -70: "-70", 10: "10", greatest: "1073741823", least: "-1073741824", greatest + 1: "1073741824", math.MaxInt: "9223372036854775807", math.MinInt: "-9223372036854775808"} {
		wantValueText(t, intValue(n), want)
		wantValueText(t, conValue("C", intValue(n)), "(C "+want+")")
	}
}

func TestValueTextOfCons(t *testing.T) {
	e := conValue("E")
	wantValueText(t, e, "E")
	wantValueText(t, conValue("C", intValue(6), conValue("C", intValue(1), e)), "(C 6 (C 1 E))")
	wantValueText(t, conValue("C", conValue("C", e), conValue("C", funValue(), intValue(-3))), "(C (C E) (C fun -3))")
	wantValueText(t, conValue("C", e, e, e, e), "(C E E E E)")
	for _, name := range []string{"", " ", "c", "Int", "fun", "(", "\x00", "\xff", "Abcdefghijkl", "A\nB"} {
		wantValueText(t, conValue(name), name)
		wantValueText(t, conValue(name, conValue(name)), "("+name+" "+name+")")
	}
	wantValueText(t, impl.Value{Kind: impl.VlCon, S: "E", Kids: []impl.Value{}}, "E")
}

func TestValueTextOfAllElse(t *testing.T) {
	wantValueText(t, funValue(), "fun")
	wantValueText(t, impl.Value{}, "fun")
	for _, kind := range []int{impl.VlFun, 0, -1, 4, 5, math.MaxInt, math.MinInt} {
		wantValueText(t, impl.Value{Kind: kind}, "fun")
		wantValueText(t, impl.Value{Kind: kind, N: 3, S: "S", Kids: []impl.Value{intValue(1)}}, "fun")
		wantValueText(t, conValue("C", impl.Value{Kind: kind, S: "E"}, conValue("E")), "(C fun E)")
	}
}

// What a kind does not name is not told.
func TestValueTextLooksAtWhatIsNamed(t *testing.T) {
	wantValueText(t, impl.Value{Kind: impl.VlInt, N: 5, S: "S", Kids: []impl.Value{conValue("E")}}, "5")
	wantValueText(t, impl.Value{Kind: impl.VlCon, N: 5, S: "S"}, "S")
	wantValueText(t, impl.Value{Kind: impl.VlCon, N: 5, S: "S", Kids: []impl.Value{{Kind: impl.VlInt, N: 2, S: "Q"}}}, "(S 2)")
}

// withinCons is a value with that many cons about it.
func withinCons(many int, v impl.Value) impl.Value {
	for range many {
		v = conValue("S", v)
	}
	return v
}

func TestValueTextOfGreatValues(t *testing.T) {
	const many = 100000
	quickly(t, "ValueText", func() {
		if got := impl.ValueText(withinCons(many, intValue(4))); got != strings.Repeat("(S ", many)+"4"+strings.Repeat(")", many) {
			t.Errorf("the text of a deep value has %d bytes", len(got))
		}
		if got := impl.ValueText(conValue("W", slices.Repeat([]impl.Value{funValue()}, many)...)); got != "(W"+strings.Repeat(" fun", many)+")" {
			t.Errorf("the text of a wide value has %d bytes", len(got))
		}
	})
}

const valueDatas = "data O a = N | S a; data L a = E | C a (L a); data T = T Int Int Int;"

func wantValueOk(t *testing.T, list []impl.Data, v impl.Value, want bool) {
	t.Helper()
	if got := impl.ValueOk(list, v); got != want {
		t.Errorf("ValueOk(%.300s) is %v", toldValue(v), got)
	}
	if got := valueOkBy(list, v, tyMost); got != want {
		t.Errorf("the second telling of ValueOk(%.300s) is %v", toldValue(v), got)
	}
}

// valueOkBy makes a value anew from what its kind names, and holds it against what it was.
func valueOkBy(list []impl.Data, v impl.Value, left int) bool {
	if left == 0 {
		return false
	}
	anew := impl.Value{Kind: v.Kind}
	types := 0
	switch v.Kind {
	case impl.VlInt:
		anew.N = gone64(v.N)
	case impl.VlCon:
		tag := tagBy(list, v.S)
		if tag < 0 {
			return false
		}
		at := seatsOf(list)[tag]
		anew.S, types = v.S, len(list[at.data].Cons[at.con].Args)
	case impl.VlFun:
	default:
		return false
	}
	for _, kid := range v.Kids {
		if !valueOkBy(list, kid, left-1) {
			return false
		}
	}
	return v.Kind == anew.Kind && v.N == anew.N && v.S == anew.S && len(v.Kids) == types
}

// gone64 is n gone round to a word by its bits.
func gone64(n int) int { return int(int64(n) << 33 >> 33) }

func TestValueOkOfInts(t *testing.T) {
	for _, list := range [][]impl.Data{nil, datasOf(valueDatas)} {
		for n, want := range map[int]bool{0: true, 1: true, -1: true, greatest: true, greatest + 1: false, least: true, least - 1: false, math.MaxInt: false, math.MinInt: false, 1 << 31: false, 1<<31 + 1: false, 1 << 40: false} {
			wantValueOk(t, list, intValue(n), want)
			wantValueOk(t, datasOf(valueDatas), conValue("S", intValue(n)), want)
			wantValueOk(t, datasOf(valueDatas), conValue("T", intValue(1), intValue(2), intValue(n)), want)
		}
	}
}

func TestValueOkOfKinds(t *testing.T) {
	list := datasOf(valueDatas)
	wantValueOk(t, nil, funValue(), true)
	wantValueOk(t, list, conValue("S", funValue()), true)
	for _, kind := range []int{0, -1, 4, 5, math.MaxInt, math.MinInt} {
		wantValueOk(t, list, impl.Value{Kind: kind}, false)
		wantValueOk(t, list, impl.Value{Kind: kind, S: "E"}, false)
		wantValueOk(t, list, conValue("C", funValue(), impl.Value{Kind: kind}), false)
	}
}

func TestValueOkOfCons(t *testing.T) {
	list := datasOf(valueDatas)
	one := intValue(1)
	for name, kids := range map[string]int{"N": 0, "S": 1, "E": 0, "C": 2, "T": 3} {
		for many := range 6 {
			v := conValue(name, slices.Repeat([]impl.Value{one}, many)...)
			wantValueOk(t, list, v, many == kids)
			wantValueOk(t, list, conValue("S", v), many == kids)
			wantValueOk(t, list, conValue("C", v, one), many == kids)
			wantValueOk(t, list, conValue("C", one, v), many == kids)
			wantValueOk(t, nil, v, false)
		}
	}
	// The types of kids are not asked for.
	wantValueOk(t, list, conValue("C", one, one), true)
	wantValueOk(t, list, conValue("T", funValue(), conValue("E"), one), true)
	for _, name := range []string{"", "Z", "O", "L", "s", "SS", "Int", "fun", "S "} {
		wantValueOk(t, list, conValue(name), false)
		wantValueOk(t, list, conValue(name, one), false)
		wantValueOk(t, list, conValue("S", conValue(name)), false)
	}
}

// Of cons of one name the first one counts; whatever the datas are, they are only asked for cons.
func TestValueOkOfDatasThatAreNotRight(t *testing.T) {
	list := []impl.Data{oneData("A", 0), oneData("A", -1, oneCon("X", intTy()), oneCon("X")), oneData("", 0, oneCon("X", intTy(), intTy()), oneCon("", impl.Ty{}))}
	one := intValue(1)
	wantValueOk(t, list, conValue("X"), false)
	wantValueOk(t, list, conValue("X", one), true)
	wantValueOk(t, list, conValue("X", one, one), false)
	wantValueOk(t, list, conValue("", one), true)
	wantValueOk(t, list, conValue(""), false)
	wantValueOk(t, list, conValue("A"), false)
}

func TestValueOkOfWhatIsNotNamed(t *testing.T) {
	list := datasOf(valueDatas)
	one := intValue(1)
	for _, v := range []impl.Value{{Kind: impl.VlInt, N: 1, S: "E"}, {Kind: impl.VlInt, N: 1, S: "x"}, {Kind: impl.VlInt, N: 1, Kids: []impl.Value{one}}, {Kind: impl.VlFun, N: 1}, {Kind: impl.VlFun, N: -1}, {Kind: impl.VlFun, S: "E"}, {Kind: impl.VlFun, Kids: []impl.Value{one}}, {Kind: impl.VlCon, N: 1, S: "E"}, {Kind: impl.VlCon, N: -1, S: "S", Kids: []impl.Value{one}}, {Kind: impl.VlCon}} {
		wantValueOk(t, list, v, false)
		wantValueOk(t, list, conValue("C", one, v), false)
		wantValueOk(t, list, conValue("C", v, one), false)
	}
	for _, v := range []impl.Value{{Kind: impl.VlInt, N: 1, Kids: []impl.Value{}}, {Kind: impl.VlFun, Kids: []impl.Value{}}, {Kind: impl.VlCon, S: "E", Kids: []impl.Value{}}} {
		wantValueOk(t, list, v, true)
		wantValueOk(t, list, conValue("S", v), true)
	}
}

func TestValueOkOfDeepValues(t *testing.T) {
	list := datasOf(valueDatas)
	for _, leaf := range []impl.Value{intValue(1), conValue("E"), funValue()} {
		for _, deep := range []int{1, 2, tyMost - 1, tyMost, tyMost + 1, tyMost + 2, 2 * tyMost} {
			v := withinCons(deep-1, leaf)
			wantValueOk(t, list, v, deep <= tyMost)
			wantValueOk(t, list, conValue("C", v, conValue("E")), deep < tyMost)
			wantValueOk(t, list, conValue("C", conValue("E"), v), deep < tyMost)
			// How many there are beside each other does not count.
			wantValueOk(t, list, conValue("T", v, v, v), deep < tyMost)
		}
	}
	wide := []impl.Data{oneData("W", 0, oneCon("W", slices.Repeat([]impl.Ty{intTy()}, 5000)...))}
	wantValueOk(t, wide, conValue("W", slices.Repeat([]impl.Value{intValue(1)}, 5000)...), true)
	wantValueOk(t, wide, conValue("W", slices.Repeat([]impl.Value{intValue(1)}, 4999)...), false)
}

// shared is a value that has each value below it twice, that many storeys deep.
func shared(deep int, leaf impl.Value) impl.Value {
	for ; deep > 1; deep-- {
		leaf = conValue("C", leaf, leaf)
	}
	return leaf
}

// sharedPattern is a pattern that has each pattern below it twice.
func sharedPattern(deep int, leaf impl.Node) impl.Node {
	for ; deep > 1; deep-- {
		leaf = conPat("C", leaf, leaf)
	}
	return leaf
}

func TestValueOkOfValuesThatAreShared(t *testing.T) {
	list := datasOf(valueDatas)
	quickly(t, "ValueOk", func() {
		for _, deep := range []int{1, 2, 20, tyMost - 1, tyMost, tyMost + 1, 1000} {
			if got := impl.ValueOk(list, shared(deep, conValue("E"))); got != (deep <= tyMost) {
				t.Errorf("a value that is shared %d deep is right: %v", deep, got)
			}
			if impl.ValueOk(list, shared(deep, conValue("Z"))) {
				t.Errorf("a value that is shared %d deep is right, with a con that is none", deep)
			}
		}
	})
	// One list may be the beginning of another one.
	all := []impl.Value{intValue(1), intValue(2), {Kind: 9}}
	for _, c := range []struct {
		kids []impl.Value
		want bool
	}{{[]impl.Value{{Kind: impl.VlCon, S: "S", Kids: all[:1]}, {Kind: impl.VlCon, S: "C", Kids: all[:2]}, funValue()}, true}, {[]impl.Value{{Kind: impl.VlCon, S: "S", Kids: all[:1]}, {Kind: impl.VlCon, S: "C", Kids: all[1:]}, funValue()}, false}, {[]impl.Value{{Kind: impl.VlCon, S: "C", Kids: all[:2]}, {Kind: impl.VlCon, S: "S", Kids: all[:1]}, {Kind: impl.VlCon, S: "T", Kids: all}}, false}, {[]impl.Value{{Kind: impl.VlCon, S: "T", Kids: all}, {Kind: impl.VlCon, S: "S", Kids: all[:1]}, funValue()}, false}} {
		wantValueOk(t, list, conValue("T", c.kids...), c.want)
	}
}

func TestValueOkOfGreatValues(t *testing.T) {
	list := datasOf(valueDatas)
	self := make([]impl.Value, 2)
	self[0], self[1] = impl.Value{Kind: impl.VlCon, S: "C", Kids: self}, impl.Value{Kind: impl.VlCon, S: "C", Kids: self}
	quickly(t, "ValueOk", func() {
		if impl.ValueOk(list, self[0]) || impl.ValueOk(list, conValue("S", self[1])) {
			t.Error("a value within itself is right")
		}
		if impl.ValueOk(list, withinCons(1000000, intValue(1))) {
			t.Error("a very deep value is right")
		}
	})
}

// Values with something wrong or not: each spot of one may be turned.

func (s *steps) randomValue(deep int) impl.Value {
	switch kind := s.below(8); {
	case kind == 0:
		return funValue()
	case kind <= 2 || deep <= 1:
		return intValue([]int{0, 1, 2, 3, -1, 99, greatest, least}[s.below(8)])
	case kind == 3:
		return conValue(s.pick("N", "E"))
	case kind <= 5:
		return conValue("S", s.randomValue(deep-1))
	case kind == 6:
		return conValue("C", s.randomValue(deep-1), s.randomValue(deep-1))
	}
	return conValue("T", s.randomValue(deep-1), s.randomValue(deep-1), s.randomValue(deep-1))
}

func valuesIn(v *impl.Value) []*impl.Value {
	list := []*impl.Value{v}
	for i := range v.Kids {
		list = append(list, valuesIn(&v.Kids[i])...)
	}
	return list
}

func (s *steps) turnValue(whole *impl.Value) {
	all := valuesIn(whole)
	v := all[s.below(len(all))]
	switch s.below(5) {
	case 0:
		v.Kind = s.below(7) - 1
	case 1:
		v.N = someNumber(s)
	case 2:
		v.S = s.pick("", "N", "S", "E", "C", "T", "Z", "O", "x")
	case 3:
		v.Kids = v.Kids[:len(v.Kids)/2]
	default:
		v.Kids = append(v.Kids, s.randomValue(2))
	}
}

func TestRandomValues(t *testing.T) {
	s := steps(101)
	list := datasOf(valueDatas)
	met := map[bool]int{}
	for i := range 20000 {
		v := s.randomValue(1 + i%5)
		if !impl.ValueOk(list, v) {
			t.Fatalf("%s is not right", toldValue(v))
		}
		for left := s.below(3); left > 0; left-- {
			s.turnValue(&v)
		}
		want := valueOkBy(list, v, tyMost)
		met[want]++
		wantValueOk(t, list, v, want)
		wantValueText(t, v, valueTextBy(v))
		if t.Failed() {
			return
		}
	}
	if met[true] < 3000 || met[false] < 3000 {
		t.Errorf("values are right and not %v times", met)
	}
}
