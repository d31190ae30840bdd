package tests

import (
	"math"
	"slices"
	"testing"

	"loop.example/g00323/impl"
)

func wantNotMade(t *testing.T, list []impl.Block) {
	t.Helper()
	if funs, ok := impl.Gen(list); ok || len(funs) > 0 {
		t.Errorf("Gen(%.300s) is %v and %.300s", toldBlocks(list), ok, toldFuns(funs))
	}
}

// wantMade holds a node at each place of each block.
func wantMade(t *testing.T, x impl.Ir, want bool) {
	t.Helper()
	for block := range 4 {
		for _, whole := range irsAbout(x) {
			list := fourBlocks()
			list[block].Body = whole
			if funs, ok := holdGen(t, list); ok != want || !ok && len(funs) > 0 {
				t.Errorf("in block %d of %.300s it is %v", block, toldBlocks(list), ok)
			}
		}
	}
}

// Tags and fields are below 60 in functions; in blocks they may be any.
func TestGenOfTagsAndFields(t *testing.T) {
	one := numIr(1)
	for _, n := range []int{0, 1, 58, 59, 60, 61, 1000, greatest} {
		is := n < tagsMost
		wantMade(t, anIr(impl.IrCon, n), is)
		wantMade(t, anIr(impl.IrCon, n, one, one), is)
		wantMade(t, anIr(impl.IrField, n, one), is)
		wantMade(t, anIr(impl.IrIsCon, n, one, one, one), is)
		// What is an int is any word.
		wantMade(t, anIr(impl.IrIsNum, n, one, one, one), true)
		wantMade(t, numIr(n), true)
		wantMade(t, numIr(-n), true)
	}
	// Also where nothing ever comes to it.
	wantMade(t, letIr(failIr(), anIr(impl.IrCon, 60)), false)
	wantMade(t, anIr(impl.IrIf, 0, one, failIr(), anIr(impl.IrField, 60, one)), false)
}

func TestGenOfKidsOfACon(t *testing.T) {
	for _, many := range []int{0, 1, 19, 20, 21, 22, 100, 1000} {
		wantMade(t, anIr(impl.IrCon, 0, slices.Repeat([]impl.Ir{numIr(1)}, many)...), many <= keptMost)
		wantMade(t, anIr(impl.IrCon, 59, slices.Repeat([]impl.Ir{letIr(numIr(1), localIr(1))}, min(many, 300))...), many <= keptMost)
	}
}

func TestGenOfHowManyAreKept(t *testing.T) {
	for _, free := range []int{0, 1, 19, 20, 21, 22, 100, 1000} {
		is := free <= keptMost
		kept := slices.Repeat([]impl.Ir{localIr(0)}, free)
		for block := range 4 {
			list := append(fourBlocks(), impl.Block{Free: free, Body: numIr(1)})
			// Whether a closure of it is made or not.
			if _, ok := holdGen(t, list); ok != is {
				t.Errorf("a block that keeps %d is made: %v", free, ok)
			}
			list[block].Body = anIr(impl.IrClos, 4, kept...)
			if _, ok := holdGen(t, list); ok != is {
				t.Errorf("a closure that keeps %d is made: %v", free, ok)
			}
			if block > 0 {
				list = fourBlocks()
				list[block] = impl.Block{Free: free, Body: anIr(impl.IrClos, block, kept...)}
				if _, ok := holdGen(t, list); ok != is {
					t.Errorf("a closure of itself that keeps %d is made: %v", free, ok)
				}
			}
		}
	}
	for _, free := range []int{greatest, math.MaxInt} {
		wantNotMade(t, append(fourBlocks(), impl.Block{Free: free, Body: numIr(1)}))
		wantNotMade(t, append(fourBlocks(), impl.Block{Free: free, Body: freeIr(free - 1)}))
	}
}

// forksOf is of as many forks as may be in so many nodes, each within kid number at of the one about it.
func forksOf(op, at, nodes int) impl.Ir {
	x := numIr(1)
	for range (nodes - 1) / 3 {
		x = withKid(anIr(op, 0, numIr(1), numIr(1), numIr(1)), at, x)
	}
	for range (nodes - 1) % 3 {
		x = anIr(impl.IrPut, 0, x)
	}
	return x
}

// A block has at most 2000 nodes, and a fork, which is two places, three kids: there are at most 2667 places.
func TestGenOfManyPlaces(t *testing.T) {
	for _, op := range []int{impl.IrIf, impl.IrIsCon, impl.IrIsNum} {
		for at := range 3 {
			for _, nodes := range []int{1, 2, 3, 4, 1997, 1998, 1999, 2000, 2001, 2002} {
				x := forksOf(op, at, nodes)
				for _, block := range []int{0, 3} {
					list := fourBlocks()
					list[block].Body = x
					funs, ok := impl.Gen(list)
					want, wantOk := genBy(list)
					if ok != (nodes <= irMost) || ok != wantOk || toldFuns(funs) != toldFuns(want) {
						t.Fatalf("of %d nodes with forks it is %v and %.300s, not %.300s", nodes, ok, toldFuns(funs), toldFuns(want))
					}
					if ok && len(funs[block].List) != nodes+(nodes-1)/3+1 {
						t.Errorf("of %d nodes with forks there are %d places", nodes, len(funs[block].List))
					}
				}
			}
		}
	}
	// All blocks may have as many.
	list := manyBlocks(blocksMost)
	for i := range list {
		list[i].Body = forksOf(impl.IrIf, i%3, irMost)
	}
	if funs, ok := impl.Gen(list); !ok || len(funs) != blocksMost || impl.Places(funs) != blocksMost*2667 || !impl.FunsOk(funs) {
		t.Errorf("of many blocks with many nodes it is %v, with %d places", ok, impl.Places(funs))
	}
	list[blocksMost-1].Body = forksOf(impl.IrIf, 0, irMost+1)
	wantNotMade(t, list)
	for _, nodes := range []int{1, 20, 1999, 2000, 2001} {
		for i, x := range manyIrs(nodes) {
			list := []impl.Block{{Body: numIr(1)}, {Body: x}}
			// The first one is a con, which has too many kids.
			is := nodes <= irMost && (i > 0 || nodes <= keptMost+1)
			if funs, ok := holdGen(t, list); ok != is || ok && impl.Places(funs) != 2+nodes+1 {
				t.Errorf("of %d nodes it is %v and %d places", nodes, ok, impl.Places(funs))
			}
		}
	}
}

// behind has a node behind so many more values, at most 19 of each con.
func behind(values int, x impl.Ir) impl.Ir {
	for values > 0 {
		now := min(values, keptMost-1)
		x = anIr(impl.IrCon, 0, append(slices.Repeat([]impl.Ir{numIr(1)}, now), x)...)
		values -= now
	}
	return x
}

// A local stands behind as many values as there are; no block has so many nodes that one would stand too far.
func TestGenOfWhereALocalStands(t *testing.T) {
	for _, values := range []int{0, 1, 2, 18, 19, 20, 37, 38, 39, 100, 500, 1000, 1800, 1896, 1897, 1898} {
		list := []impl.Block{{Body: numIr(1)}, {Body: behind(values, letIr(numIr(1), localIr(1)))}}
		funs, ok := holdGen(t, list)
		if is := impl.BlocksOk(list); ok != is || is != (values <= 1897) {
			t.Errorf("behind %d values it is %v", values, ok)
		}
		if ok && !slices.Contains(funs[1].List, anOp(impl.BcLocal, 1+values, 0)) {
			t.Errorf("behind %d values the local does not stand at %d", values, 1+values)
		}
	}
	for _, lets := range []int{1, 2, 59, 60, 61, 500, 998, 999, 1000} {
		list := []impl.Block{{Body: letsAbout(lets, localIr(lets))}}
		funs, ok := holdGen(t, list)
		if ok != (lets <= 999) || ok && funs[0].List[lets] != anOp(impl.BcLocal, lets, 0) {
			t.Errorf("in %d lets it is %v", lets, ok)
		}
	}
	// A con with too many kids is none, wherever its locals would stand.
	wantNotMade(t, []impl.Block{{Body: anIr(impl.IrCon, 0, append(slices.Repeat([]impl.Ir{numIr(1)}, 1990), letIr(numIr(1), localIr(1)))...)}})
}

// What is wrong in one block, whichever, is wrong in all.
func TestGenOfOneWrongBlock(t *testing.T) {
	one := numIr(1)
	wrongs := []impl.Ir{anIr(impl.IrCon, 60), anIr(impl.IrField, 60, one), anIr(impl.IrIsCon, 60, one, one, one), anIr(impl.IrCon, 0, slices.Repeat([]impl.Ir{one}, 21)...), {}, anIr(20, 0), anIr(impl.IrPut, 0), localIr(1), localIr(-1), freeIr(2), numIr(greatest + 1), anIr(impl.IrClos, 0), anIr(impl.IrClos, 4), anIr(impl.IrClos, 1), anIr(impl.IrNum, 0, one), anIr(impl.IrAdd, 1, one, one), anIr(impl.IrIf, 0, one, one)}
	for _, wrong := range wrongs {
		for block := range 4 {
			list := fourBlocks()
			list[block].Body = wrong
			wantNotMade(t, list)
			if _, ok := holdGen(t, list); ok {
				t.Errorf("%s is made in block %d", toldIr(wrong), block)
			}
		}
		if wrong.Op == impl.IrClos && wrong.N > 0 {
			// Of another list it is right.
			continue
		}
		list := manyBlocks(blocksMost)
		list[blocksMost-1].Body = wrong
		wantNotMade(t, list)
	}
	wantNotMade(t, nil)
	wantNotMade(t, []impl.Block{})
	wantNotMade(t, []impl.Block{{}})
	wantNotMade(t, make([]impl.Block, 60))
	wantNotMade(t, []impl.Block{{Free: 1, Body: one}})
	wantNotMade(t, []impl.Block{{Body: selfIr()}})
	wantNotMade(t, []impl.Block{{Body: one}, {Free: -1, Body: one}})
	wantNotMade(t, append(manyBlocks(blocksMost), impl.Block{Body: one}))
}

func TestGenOfGreatBlocks(t *testing.T) {
	const many = 1000000
	deep := numIr(1)
	for range many {
		deep = anIr(impl.IrPut, 0, deep)
	}
	great := append(selfIrs(), deep, sharedIr(200, numIr(1)), anIr(impl.IrCon, 0, make([]impl.Ir, many)...), anIr(impl.IrCon, 0, slices.Repeat([]impl.Ir{numIr(1)}, many)...))
	quickly(t, "Gen", func() {
		for i, x := range great {
			for _, list := range [][]impl.Block{{{Body: x}}, {{Body: numIr(1)}, {Body: anIr(impl.IrPut, 0, x)}}} {
				if funs, ok := impl.Gen(list); ok || len(funs) > 0 {
					t.Errorf("great block %d is made", i)
				}
			}
		}
		if funs, ok := impl.Gen(slices.Repeat([]impl.Block{{Body: numIr(1)}}, many)); ok || len(funs) > 0 {
			t.Error("too many blocks are made")
		}
	})
	// What is shared, and not too large, is made as if it were not.
	x := sharedIr(9, localIr(0))
	got, ok := impl.Gen([]impl.Block{{Body: x}})
	want, wantOk := impl.Gen([]impl.Block{{Body: copiedIr(x)}})
	if !ok || !wantOk || toldFuns(got) != toldFuns(want) || impl.Places(got) != 1024 {
		t.Errorf("what is shared is made: %v, with %d places", ok, impl.Places(got))
	}
}

func wantManyPlaces(t *testing.T, list []impl.Fun, want int) {
	t.Helper()
	if got := impl.Places(list); got != want {
		t.Errorf("Places(%.300s) is %d, not %d", toldFuns(list), got, want)
	}
}

// Places counts whatever there is, right or not.
func TestPlaces(t *testing.T) {
	wantManyPlaces(t, nil, 0)
	wantManyPlaces(t, []impl.Fun{}, 0)
	wantManyPlaces(t, []impl.Fun{{}}, 0)
	wantManyPlaces(t, []impl.Fun{{Free: 5}, {Free: -1, List: []impl.Op{}}, {}}, 0)
	wantManyPlaces(t, make([]impl.Fun, 1000), 0)
	wantManyPlaces(t, []impl.Fun{aFunction(0, retOp())}, 1)
	wantManyPlaces(t, []impl.Fun{aFunction(0), aFunction(7, retOp(), oneOp(), retOp()), {}, aFunction(-7, impl.Op{}, impl.Op{Code: 99})}, 5)
	wantManyPlaces(t, fiveFuns(), 20)
	wantManyPlaces(t, []impl.Fun{{List: make([]impl.Op, 3001)}, {List: make([]impl.Op, 10000)}}, 13001)
	places := roomBehind([]impl.Op{oneOp(), retOp()}, oneOp())
	for many := range 100 {
		wantManyPlaces(t, roomBehind(slices.Repeat([]impl.Fun{{List: places}}, many), impl.Fun{List: places}), 2*many)
	}
	s := steps(141)
	for i := range 500 {
		list := s.rightFuns(1 + i%30)
		if i%2 == 0 {
			s.turnFuns(list)
		}
		want := 0
		for _, f := range list {
			for range f.List {
				want++
			}
		}
		wantManyPlaces(t, list, want)
	}
	const many = 1000000
	great := slices.Repeat([]impl.Fun{{List: make([]impl.Op, many)}}, many)
	quickly(t, "Places", func() {
		if got := impl.Places(great); got != many*many {
			t.Errorf("of a great list there are %d places", got)
		}
	})
}
