package tests

import (
	"slices"
	"testing"

	"loop.example/g00323/impl"
)

// keptFuns are so many functions without places: the first one keeps none.
func (s *steps) keptFuns(many int) []impl.Fun {
	list := make([]impl.Fun, many)
	for i := range list {
		if i > 0 {
			list[i].Free = s.below(4)
		}
	}
	return list
}

// suited is a place that finds what it wants among so many values, leads by itself to the next one, and is right; where it may lead elsewhere is 0 yet.
func (s *steps) suited(list []impl.Fun, number, values int) impl.Op {
	for {
		o := s.rightOp(list, number)
		switch codeName(o.Code) {
		case "local":
			o.N = s.below(values)
		case "con":
			o.M = s.below(min(values, 4))
		case "isnum", "iscon":
			o.M = 0
		case "zero":
			o.N = 0
		case "ret", "jump", "fail":
			continue
		}
		if !isLacking(o, values) {
			return o
		}
	}
}

// comes is some place at which there are so many values.
func (s *steps) comes(heights []int, values int) int {
	var all []int
	for at, h := range heights {
		if h == values {
			all = append(all, at)
		}
	}
	return all[s.below(len(all))]
}

// steadyPlaces are so many that never lack a value, whether they are met or not: a place leads, forwards or backwards, only to those that have as many.
func (s *steps) steadyPlaces(list []impl.Fun, number, many int) []impl.Op {
	places := make([]impl.Op, many)
	heights := make([]int, many)
	values := 1
	for at := range places {
		heights[at] = values
		switch last := at == many-1; {
		case values == 2 && (last || s.below(6) == 0):
			places[at] = retOp()
		case last || s.below(8) == 0:
			places[at] = anOp(impl.BcJump, 0, 0)
		case s.below(20) == 0:
			places[at] = anOp(impl.BcFail, 0, 0)
		default:
			places[at] = s.suited(list, number, values)
		}
		takes, puts := takesAndPuts(places[at])
		values += puts - takes
		if len(waysOn(at, places[at])) == 0 {
			// Nothing comes on from here: what is behind it is met by others.
			values = heights[s.below(at+1)]
		}
	}
	for at := range places {
		o := &places[at]
		switch codeName(o.Code) {
		case "zero":
			o.N = s.comes(heights, heights[at]-1)
		case "iscon", "isnum":
			o.M = s.comes(heights, heights[at]-1)
		case "jump":
			o.N = s.comes(heights, heights[at])
		}
	}
	return places
}

// steadyFuns are verified.
func (s *steps) steadyFuns(many, long int) []impl.Fun {
	list := s.keptFuns(many)
	for i := range list {
		list[i].List = make([]impl.Op, 1)
	}
	for i := range list {
		list[i].List = s.steadyPlaces(list, i, 1+s.below(long))
	}
	return list
}

func TestDepthsOfSteadyFuns(t *testing.T) {
	s := steps(151)
	met := map[bool]int{}
	codes := map[int]int{}
	never, back := 0, 0
	for i := range 6000 {
		list := s.steadyFuns(1+i%4, 1+i%40)
		if !holdDepths(t, list) {
			t.Fatalf("%.500s is not verified", funsText(list))
		}
		for number, f := range list {
			depths, _ := impl.Depths(list, number)
			for at, o := range f.List {
				if depths[at] < 0 {
					never++
					continue
				}
				codes[o.Code]++
				if slices.Min(append(waysOn(at, o), at+1)) <= at {
					back++
				}
			}
		}
		s.turnFuns(list)
		met[holdDepths(t, list)]++
	}
	if met[true] < 1500 || met[false] < 2500 || never < 5000 || back < 1000 {
		t.Errorf("what is turned is verified %v times; %d places are never met, %d lead back", met, never, back)
	}
	for code := impl.BcNum; code <= impl.BcFail; code++ {
		if codes[code] < 100 {
			t.Errorf("only %d places that are met are of code %d", codes[code], code)
		}
	}
}

// turnOp changes a place to another one that is right there.
func (s *steps) turnOp(list []impl.Fun) {
	number := s.below(len(list))
	f := list[number]
	if at := s.below(len(f.List)); at < len(f.List)-1 {
		f.List[at] = s.rightOp(list, number)
		return
	}
	f.List[len(f.List)-1] = []impl.Op{retOp(), anOp(impl.BcJump, s.below(len(f.List)), 0), anOp(impl.BcFail, 0, 0)}[s.below(3)]
}

func TestDepthsOfTurnedFuns(t *testing.T) {
	s := steps(152)
	met := map[bool]int{}
	for i := range 15000 {
		list := s.steadyFuns(1+i%3, 1+i%20)
		for range 1 + i%3 {
			s.turnOp(list)
		}
		if !impl.FunsOk(list) {
			t.Fatalf("%.500s is not right", toldFuns(list))
		}
		met[holdDepths(t, list)]++
	}
	if met[true] < 3000 || met[false] < 5000 {
		t.Errorf("what is turned is verified %v times", met)
	}
	met = map[bool]int{}
	for i := range 15000 {
		met[holdDepths(t, s.rightFuns(1+i%6))]++
	}
	if met[true] < 300 || met[false] < 5000 {
		t.Errorf("what is right is verified %v times", met)
	}
}

// smallOps are those of which all small functions are made, with each place of many to which they may lead.
func smallOps(many int) []impl.Op {
	list := opsOf("num 1, local 1, add, slide, ret, fail")
	for to := range many {
		list = append(list, anOp(impl.BcZero, to, 0), anOp(impl.BcJump, to, 0))
	}
	return list
}

// All functions of up to five places.
func TestDepthsOfAllSmallFuns(t *testing.T) {
	for many := 1; many <= 5; many++ {
		all := smallOps(many)
		total := 1
		for range many {
			total *= len(all)
		}
		places := make([]impl.Op, many)
		list := []impl.Fun{{List: places}}
		met := map[bool]int{}
		for number := range total {
			for at := range places {
				places[at] = all[number%len(all)]
				number /= len(all)
			}
			if name := codeName(places[many-1].Code); name == "ret" || name == "jump" || name == "fail" {
				_, ok := holdDepthsOf(t, list, 0)
				met[ok]++
			}
		}
		if met[true] < total/25 || met[false] < total/30 {
			t.Errorf("of %d, functions of %d places are verified %v times", total, many, met)
		}
	}
}

// holdDepthsMemory holds that no function is written into, and that what is answered is new.
func holdDepthsMemory(t *testing.T, list []impl.Fun) bool {
	t.Helper()
	kept := toldFunsWithRoom(list)
	verified := impl.Verify(list)
	var own pieces
	var answers, wants [][]int
	for i := range list {
		depths, ok := impl.Depths(list, i)
		if !ok && depths != nil || verified && !ok {
			t.Fatalf("Depths(%.500s, %d) is %v and %v", toldFuns(list), i, ok, depths)
		}
		answers, wants = append(answers, depths), append(wants, slices.Clone(depths))
		addList(&own, depths)
	}
	addFunsOnce(&own, list)
	if own.overlap() {
		t.Fatalf("what is answered of %.500s shares memory", toldFuns(list))
	}
	for _, depths := range answers {
		for i := range depths[:cap(depths)] {
			depths[:cap(depths)][i] = 99
		}
	}
	for i, want := range wants {
		if again, _ := impl.Depths(list, i); !slices.Equal(again, want) {
			t.Fatalf("asked again, Depths(%.500s, %d) is %v, not %v", toldFuns(list), i, again, want)
		}
	}
	if toldFunsWithRoom(list) != kept || impl.Verify(list) != verified {
		t.Fatalf("%.500s is written into", kept)
	}
	return verified
}

// addFunsOnce adds each list of places once, however many functions share it.
func addFunsOnce(own *pieces, list []impl.Fun) {
	addList(own, list)
	var met []*impl.Op
	for _, f := range list {
		if cap(f.List) == 0 {
			continue
		}
		if first := &f.List[:1][0]; !slices.Contains(met, first) {
			met = append(met, first)
			addList(own, f.List)
		}
	}
}

func TestDepthsAreNewMemory(t *testing.T) {
	s := steps(153)
	met := map[bool]int{}
	for i := range 4000 {
		list := s.steadyFuns(1+i%4, 1+i%20)
		for range i % 3 {
			s.turnFuns(list)
		}
		met[holdDepthsMemory(t, funsWithRoom(list))]++
	}
	if met[true] < 1500 || met[false] < 1000 {
		t.Errorf("what is told is verified %v times", met)
	}
	// Functions that share their places, and what stands behind them.
	places := opsOf("num 1, local 1, zero 4, num 2, ret, slide, jump 0")
	for many, want := range []bool{false, false, false, false, false, false, false, false} {
		if got := holdDepthsMemory(t, []impl.Fun{{List: places[:many]}, {Free: 3, List: places[:many]}}); got != want {
			t.Errorf("of %d places it is %v", many, got)
		}
	}
	places = opsOf("num 1, ret, jump 1, add, fail")
	for many, want := range []bool{false, false, true, true, false, true} {
		if got := holdDepthsMemory(t, []impl.Fun{{List: places[:many]}, {Free: 3, List: places[:many]}}); got != want {
			t.Errorf("of %d places it is %v", many, got)
		}
	}
}
