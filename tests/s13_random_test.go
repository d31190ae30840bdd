package tests

import (
	"slices"
	"testing"

	"loop.example/g00323/impl"
)

// rightOp is an op that is right in its function.
func (s *steps) rightOp(list []impl.Fun, number int) impl.Op {
	for {
		code := 1 + s.below(21)
		n, is := s.within(spanN(list, number, codeName(code)))
		if !is {
			continue
		}
		m, _ := s.within(spanM(list, number, codeName(code), n))
		return anOp(code, n, m)
	}
}

// within is a number of a span, more often one at its ends; false where there is none.
func (s *steps) within(all span) (int, bool) {
	if all.to < all.from {
		return 0, false
	}
	switch s.below(4) {
	case 0:
		return all.from, true
	case 1:
		return all.to, true
	}
	return all.from + s.below(min(all.to-all.from+1, 60000)), true
}

func (s *steps) rightFuns(long int) []impl.Fun {
	list := make([]impl.Fun, 1+s.below(5))
	for i := range list {
		list[i].List = make([]impl.Op, 1+s.below(long))
		if i > 0 {
			list[i].Free = s.below(21)
		}
	}
	for i, f := range list {
		for at := range f.List {
			f.List[at] = s.rightOp(list, i)
		}
		f.List[len(f.List)-1] = []impl.Op{retOp(), anOp(impl.BcJump, s.below(len(f.List)), 0), anOp(impl.BcFail, 0, 0)}[s.below(3)]
	}
	return list
}

func (s *steps) turnFuns(list []impl.Fun) {
	f := &list[s.below(len(list))]
	if len(f.List) == 0 {
		return
	}
	o := &f.List[s.below(len(f.List))]
	switch s.below(9) {
	case 0:
		f.Free += s.below(3) - 1
	case 1:
		o.Code = s.below(24) - 1
	case 2:
		o.N = someNumber(s)
	case 3:
		o.M = someNumber(s)
	case 4:
		o.N += s.below(3) - 1
	case 5:
		o.M += s.below(3) - 1
	case 6:
		f.List = f.List[:len(f.List)-1]
	case 7:
		o.N, o.M = o.M, o.N
	default:
		*o = f.List[s.below(len(f.List))]
	}
}

func TestRandomFuns(t *testing.T) {
	s := steps(131)
	met := map[bool]int{}
	for i := range 40000 {
		list := s.rightFuns(1 + i%12)
		if i%4 == 0 {
			wantFunsOk(t, list, true)
		}
		for left := s.below(3); left > 0; left-- {
			s.turnFuns(list)
		}
		want := funsOkBy(list)
		wantFunsOk(t, list, want)
		met[want]++
		if t.Failed() {
			return
		}
	}
	if met[true] < 15000 || met[false] < 10000 {
		t.Errorf("functions are right and not %v times", met)
	}
}

// All ops of small numbers, in the first function and in another one.
func TestFunsOkOfSmallOps(t *testing.T) {
	met := map[bool]int{}
	for code := -1; code <= 23; code++ {
		for n := -2; n <= 5; n++ {
			for m := -2; m <= 5; m++ {
				for number := range 3 {
					list := fiveFuns()
					list[number].List[1] = anOp(code, n, m)
					want := opOkBy(list, number, anOp(code, n, m))
					wantFunsOk(t, list, want)
					met[want]++
				}
			}
		}
	}
	if met[true] < 300 || met[false] < 3000 {
		t.Errorf("ops are right and not %v times", met)
	}
}

func funsWithRoom(list []impl.Fun) []impl.Fun {
	var funs []impl.Fun
	for _, f := range list {
		funs = append(funs, impl.Fun{Free: f.Free, List: roomBehind(f.List, anOp(77, 7, 7))})
	}
	return roomBehind(funs, impl.Fun{Free: 77})
}

func toldFunsWithRoom(list []impl.Fun) string {
	var all []impl.Fun
	for _, f := range list[:cap(list)] {
		all = append(all, impl.Fun{Free: f.Free, List: f.List[:cap(f.List)]})
	}
	return toldFuns(all)
}

func TestFunsAreNotWrittenInto(t *testing.T) {
	s := steps(132)
	met := map[bool]int{}
	for i := range 8000 {
		list := s.rightFuns(1 + i%9)
		for left := s.below(3); left > 0; left-- {
			s.turnFuns(list)
		}
		list = funsWithRoom(list)
		kept := toldFunsWithRoom(list)
		right := impl.FunsOk(list)
		if toldFunsWithRoom(list) != kept {
			t.Fatalf("%s is written into", kept)
		}
		if impl.FunsOk(list) != right || right != funsOkBy(list) {
			t.Fatalf("asked again, %s is told otherwise", kept)
		}
		met[right]++
	}
	if met[true] < 2500 || met[false] < 2500 {
		t.Errorf("functions are right and not %v times", met)
	}
}

// What stands behind the end of a list is nothing to it; lists that several functions share are only read.
func TestFunsThatShareTheirPlaces(t *testing.T) {
	places := []impl.Op{oneOp(), retOp(), anOp(impl.BcJump, 3, 0), anOp(99, 9, 9)}
	for many, want := range []bool{false, false, true, false, false} {
		list := []impl.Fun{{List: places[:many]}, {Free: 3, List: places[:many]}, {List: places[:many]}}
		kept := toldFunsWithRoom(list)
		wantFunsOk(t, list, want)
		if toldFunsWithRoom(list) != kept {
			t.Errorf("%s is written into", kept)
		}
	}
	// A place that is right in one of them need not be so in another one.
	places = []impl.Op{anOp(impl.BcFree, 2, 0), anOp(impl.BcSelf, 0, 0), retOp()}
	wantFunsOk(t, []impl.Fun{aFunction(0, retOp()), {Free: 3, List: places}}, true)
	wantFunsOk(t, []impl.Fun{aFunction(0, retOp()), {Free: 3, List: places}, {Free: 2, List: places}}, false)
	wantFunsOk(t, []impl.Fun{{List: places[1:]}, {Free: 3, List: places}}, false)
	whole := slices.Concat(manyFuns(60), manyFuns(60))
	wantFunsOk(t, whole[:60], true)
	wantFunsOk(t, whole[:61], false)
}
