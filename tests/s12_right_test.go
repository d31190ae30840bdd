package tests

import (
	"math"
	"slices"
	"testing"

	"loop.example/g00323/impl"
)

func wantBlocksOk(t *testing.T, list []impl.Block, want bool) {
	t.Helper()
	if got := impl.BlocksOk(list); got != want {
		t.Errorf("BlocksOk(%.300s) is %v", toldBlocks(list), got)
	}
	if got := blocksOkBy(list); got != want {
		t.Errorf("the second telling of BlocksOk(%.300s) is %v", toldBlocks(list), got)
	}
}

func selfIr() impl.Ir { return anIr(impl.IrSelf, 0) }

func failIr() impl.Ir { return anIr(impl.IrFail, 0) }

func freeIr(n int) impl.Ir { return anIr(impl.IrFree, n) }

// fourBlocks keep none, two, one and none.
func fourBlocks() []impl.Block {
	return []impl.Block{{Body: numIr(1)}, {Free: 2, Body: numIr(1)}, {Free: 1, Body: numIr(1)}, {Body: numIr(1)}}
}

// irsAbout have a node at each place that one may be at, behind no local but the argument.
func irsAbout(x impl.Ir) []impl.Ir {
	one := numIr(1)
	list := []impl.Ir{x, letIr(x, one), letIr(letIr(x, one), letIr(one, one)), anIr(impl.IrPut, 0, x), anIr(impl.IrField, 3, x), anIr(impl.IrApp, 0, x, one), anIr(impl.IrApp, 0, one, x), anIr(impl.IrCon, 0, x), anIr(impl.IrCon, 7, one, x, one), anIr(impl.IrClos, 1, x, one), anIr(impl.IrClos, 1, one, x), anIr(impl.IrClos, 2, x), anIr(impl.IrField, 0, anIr(impl.IrField, 1, x))}
	for op := impl.IrAdd; op <= impl.IrSame; op++ {
		list = append(list, anIr(op, 0, x, one), anIr(op, 0, one, x))
	}
	for _, op := range []int{impl.IrIf, impl.IrIsCon, impl.IrIsNum} {
		list = append(list, anIr(op, 0, x, one, one), anIr(op, 0, one, x, one), anIr(op, 0, one, one, x))
	}
	return list
}

// wantIrOk holds a node at each place of the block that has this number.
func wantIrOk(t *testing.T, block int, x impl.Ir, want bool) {
	t.Helper()
	for _, whole := range irsAbout(x) {
		list := fourBlocks()
		list[block].Body = whole
		wantBlocksOk(t, list, want)
	}
}

func TestBlocksOkOfEachKind(t *testing.T) {
	one := numIr(1)
	for block := range 4 {
		for _, x := range []impl.Ir{one, localIr(0), failIr(), letIr(one, localIr(1)), anIr(impl.IrApp, 0, one, one), anIr(impl.IrIf, 0, one, one, one), anIr(impl.IrPut, 0, one), anIr(impl.IrField, 0, one), anIr(impl.IrCon, 0), anIr(impl.IrCon, 5, one, one, one, one), anIr(impl.IrIsCon, 0, one, one, one), anIr(impl.IrIsNum, 0, one, one, one), anIr(impl.IrClos, 1, one, one), anIr(impl.IrClos, 2, one), anIr(impl.IrClos, 3)} {
			wantIrOk(t, block, x, true)
		}
		for op := impl.IrAdd; op <= impl.IrSame; op++ {
			wantIrOk(t, block, anIr(op, 0, one, one), true)
		}
		wantIrOk(t, block, selfIr(), block > 0)
		for n := -1; n < 4; n++ {
			wantIrOk(t, block, freeIr(n), n >= 0 && n < fourBlocks()[block].Free)
		}
	}
}

// Of each kind as many kids as it has, and others.
func TestBlocksOkOfKidsOfAnotherNumber(t *testing.T) {
	for op, want := range map[int]int{impl.IrNum: 0, impl.IrLocal: 0, impl.IrFree: 0, impl.IrSelf: 0, impl.IrApp: 2, impl.IrLet: 2, impl.IrIf: 3, impl.IrAdd: 2, impl.IrSub: 2, impl.IrMul: 2, impl.IrLess: 2, impl.IrSame: 2, impl.IrPut: 1, impl.IrField: 1, impl.IrIsCon: 3, impl.IrIsNum: 3, impl.IrFail: 0} {
		for many := range 6 {
			wantIrOk(t, 1, anIr(op, 0, slices.Repeat([]impl.Ir{numIr(1)}, many)...), many == want)
			// A kid too many is too many whatever it is.
			wantIrOk(t, 1, anIr(op, 0, make([]impl.Ir, many)...), many == want && many == 0)
		}
	}
	for many := range 30 {
		kids := slices.Repeat([]impl.Ir{localIr(0)}, many)
		wantIrOk(t, 1, anIr(impl.IrCon, 0, kids...), true)
		for block, b := range fourBlocks() {
			wantIrOk(t, 1, anIr(impl.IrClos, block, kids...), block > 0 && many == b.Free)
		}
	}
}

func TestBlocksOkOfNoKind(t *testing.T) {
	for _, op := range []int{0, -1, impl.IrFail + 1, impl.IrFail + 2, 100, math.MaxInt, math.MinInt} {
		for many := range 4 {
			wantIrOk(t, 1, anIr(op, 0, slices.Repeat([]impl.Ir{numIr(1)}, many)...), false)
		}
	}
	wantBlocksOk(t, []impl.Block{{}}, false)
	wantBlocksOk(t, []impl.Block{{Body: numIr(0)}, {}}, false)
}

// What a kind does not name is 0, and what it names is a word, from 0 on but of an int.
func TestBlocksOkOfNumbers(t *testing.T) {
	one := numIr(1)
	numbers := []int{math.MinInt, least - 1, least, -2, -1, 0, 1, 2, 59, 60, 61, 2000, greatest - 1, greatest, greatest + 1, 1 << 31, math.MaxInt}
	for _, n := range numbers {
		wantIrOk(t, 1, numIr(n), least <= n && n <= greatest)
		wantIrOk(t, 1, localIr(n), n == 0)
		wantIrOk(t, 1, freeIr(n), n == 0 || n == 1)
		wantIrOk(t, 1, anIr(impl.IrClos, n, one), n == 2)
		for _, x := range []impl.Ir{selfIr(), failIr(), letIr(one, one), anIr(impl.IrApp, 0, one, one), anIr(impl.IrIf, 0, one, one, one), anIr(impl.IrAdd, 0, one, one), anIr(impl.IrSub, 0, one, one), anIr(impl.IrMul, 0, one, one), anIr(impl.IrLess, 0, one, one), anIr(impl.IrSame, 0, one, one), anIr(impl.IrPut, 0, one)} {
			x.N = n
			wantIrOk(t, 1, x, n == 0)
		}
		for _, x := range []impl.Ir{anIr(impl.IrCon, 0), anIr(impl.IrCon, 0, one), anIr(impl.IrField, 0, one), anIr(impl.IrIsCon, 0, one, one, one), anIr(impl.IrIsNum, 0, one, one, one)} {
			x.N = n
			wantIrOk(t, 1, x, 0 <= n && n <= greatest)
		}
	}
}

// letsAbout are so many lets, each in the second kid of the one about it.
func letsAbout(many int, x impl.Ir) impl.Ir {
	for range many {
		x = letIr(numIr(1), x)
	}
	return x
}

func TestBlocksOkOfLocals(t *testing.T) {
	one := numIr(1)
	for _, lets := range []int{0, 1, 2, 3, 20, 900} {
		for n := lets - 2; n <= lets+2; n++ {
			is := 0 <= n && n <= lets
			wantIrOk(t, 1, letsAbout(lets, localIr(n)), is)
			wantIrOk(t, 0, letsAbout(lets, localIr(n)), is)
			// A let makes a local in its second kid alone; nothing else makes one.
			wantIrOk(t, 1, letsAbout(lets, letIr(localIr(n), one)), is)
			wantIrOk(t, 1, letsAbout(lets, letIr(letIr(one, one), localIr(n-1))), 1 <= n && n <= lets+2)
			wantIrOk(t, 1, letsAbout(lets, anIr(impl.IrApp, 0, letIr(one, one), localIr(n))), is)
			wantIrOk(t, 1, letsAbout(lets, anIr(impl.IrIsCon, 0, one, localIr(n), one)), is)
			wantIrOk(t, 1, letsAbout(lets, anIr(impl.IrIsNum, 0, one, one, localIr(n))), is)
			wantIrOk(t, 1, letsAbout(lets, anIr(impl.IrIf, 0, one, one, localIr(n))), is)
			wantIrOk(t, 1, letsAbout(lets, anIr(impl.IrClos, 1, one, localIr(n))), is)
			wantIrOk(t, 1, letsAbout(lets, anIr(impl.IrCon, 0, letIr(one, one), localIr(n))), is)
			wantIrOk(t, 1, letsAbout(lets, anIr(impl.IrAdd, 0, one, localIr(n))), is)
		}
	}
	// Locals of one block are none of another one.
	list := fourBlocks()
	list[1].Body = letsAbout(3, localIr(3))
	wantBlocksOk(t, list, true)
	list[2].Body = localIr(1)
	wantBlocksOk(t, list, false)
}

func TestBlocksOkOfFrees(t *testing.T) {
	for _, free := range []int{0, 1, 2, 3, 20, 21, 1000, greatest, math.MaxInt} {
		for _, n := range []int{-1, 0, 1, 2, 3, 19, 20, 21, 999, 1000, greatest} {
			list := fourBlocks()
			list[3] = impl.Block{Free: free, Body: freeIr(n)}
			wantBlocksOk(t, list, 0 <= n && n < free)
		}
		// How many are kept is asked where the closure is made, in whichever block.
		for block := range 4 {
			for _, many := range []int{free - 1, free, free + 1} {
				if many < 0 || many > 1500 {
					continue
				}
				list := fourBlocks()
				list = append(list, impl.Block{Free: free, Body: numIr(1)})
				list[block].Body = anIr(impl.IrClos, 4, slices.Repeat([]impl.Ir{localIr(0)}, many)...)
				wantBlocksOk(t, list, many == free)
			}
		}
	}
}

// Block 0 keeps nothing; how many are kept is never below 0, also of a block of which no closure is made.
func TestBlocksOkOfHowManyAreKept(t *testing.T) {
	for _, free := range []int{math.MinInt, -2, -1, 0, 1, 2, 20, math.MaxInt} {
		wantBlocksOk(t, []impl.Block{{Free: free, Body: numIr(1)}}, free == 0)
		wantBlocksOk(t, []impl.Block{{Free: free, Body: numIr(1)}, {Body: numIr(1)}}, free == 0)
		wantBlocksOk(t, []impl.Block{{Body: numIr(1)}, {Free: free, Body: numIr(1)}}, free >= 0)
		wantBlocksOk(t, []impl.Block{{Body: numIr(1)}, {Body: numIr(1)}, {Free: free, Body: numIr(1)}}, free >= 0)
	}
}

// manyBlocks are so many, each of which makes closures of the one behind it and of the one ahead of it.
func manyBlocks(many int) []impl.Block {
	list := make([]impl.Block, many)
	for i := range list {
		list[i].Body = numIr(1)
		if many > 1 {
			list[i].Body = anIr(impl.IrCon, 0, anIr(impl.IrClos, min(i+1, many-1)), anIr(impl.IrClos, max(i-1, 1)))
		}
	}
	return list
}

func TestBlocksOkOfManyBlocks(t *testing.T) {
	wantBlocksOk(t, nil, false)
	wantBlocksOk(t, []impl.Block{}, false)
	for _, many := range []int{1, 2, 3, 58, 59, 60, 61, 62, 100, 1000} {
		list := manyBlocks(many)
		wantBlocksOk(t, list, many <= blocksMost)
		// The last one, and none behind it.
		for n := many - 2; n <= many+1; n++ {
			list[0].Body = anIr(impl.IrClos, n)
			wantBlocksOk(t, list, many <= blocksMost && 1 <= n && n < many)
		}
		list[0].Body = numIr(1)
		// One that is wrong, wherever it is.
		for _, i := range []int{0, many / 2, many - 1} {
			kept := list[i].Body
			list[i].Body = anIr(impl.IrPut, 0)
			wantBlocksOk(t, list, false)
			list[i].Body = kept
		}
	}
}

// manyIrs are nodes of this size: wide, deep, and both.
func manyIrs(size int) []impl.Ir {
	wide, deep, both := anIr(impl.IrCon, 0, slices.Repeat([]impl.Ir{numIr(1)}, size-1)...), numIr(1), numIr(1)
	for range size - 1 {
		deep = anIr(impl.IrPut, 0, deep)
	}
	for range (size - 1) / 2 {
		both = letIr(numIr(1), both)
	}
	if size%2 == 0 {
		both = anIr(impl.IrField, 1, both)
	}
	return []impl.Ir{wide, deep, both}
}

func TestBlocksOkOfManyNodes(t *testing.T) {
	for _, size := range []int{1, 2, 3, 1998, 1999, 2000, 2001, 2002, 4000} {
		for i, x := range manyIrs(size) {
			if got := irSizeBy(x); got != size {
				t.Fatalf("there are %d nodes", got)
			}
			for block := range 4 {
				list := fourBlocks()
				list[block].Body = x
				wantBlocksOk(t, list, size <= irMost)
			}
			// Each block has its own.
			list := manyBlocks(blocksMost)
			for block := range list {
				list[block].Body = manyIrs(min(size, irMost))[i]
			}
			wantBlocksOk(t, list, true)
			list[blocksMost-1].Body = x
			wantBlocksOk(t, list, size <= irMost)
		}
	}
}

// sharedIr has 2^(n+1) - 1 nodes.
func sharedIr(n int, x impl.Ir) impl.Ir {
	for range n {
		x = anIr(impl.IrApp, 0, x, x)
	}
	return x
}

// selfIrs are within themselves.
func selfIrs() []impl.Ir {
	down, wide, later := make([]impl.Ir, 1), make([]impl.Ir, 3), make([]impl.Ir, 2)
	down[0] = anIr(impl.IrPut, 0, down...)
	down[0].Kids = down
	wide[0], wide[1], wide[2] = numIr(1), anIr(impl.IrIf, 0), anIr(impl.IrIf, 0)
	wide[1].Kids, wide[2].Kids = wide, wide
	later[0], later[1] = numIr(1), anIr(impl.IrApp, 0)
	later[1].Kids = []impl.Ir{numIr(1), anIr(impl.IrPut, 0, later[1:]...)}
	later[1].Kids[1].Kids = later[1:]
	return []impl.Ir{down[0], wide[1], wide[2], anIr(impl.IrApp, 0, later...), anIr(impl.IrCon, 0, numIr(1), sharedIr(70, later[1]))}
}

func TestBlocksOkOfGreatNodes(t *testing.T) {
	const many = 1000000
	deep := numIr(1)
	for range many {
		deep = anIr(impl.IrPut, 0, deep)
	}
	great := append(selfIrs(), deep, sharedIr(200, numIr(1)), sharedIr(30, localIr(0)), anIr(impl.IrCon, 0, make([]impl.Ir, many)...), anIr(impl.IrCon, 0, slices.Repeat([]impl.Ir{numIr(1)}, many)...), anIr(impl.IrPut, 0, make([]impl.Ir, many)...))
	quickly(t, "BlocksOk", func() {
		for i, x := range great {
			if impl.BlocksOk([]impl.Block{{Body: x}}) || impl.BlocksOk([]impl.Block{{Body: numIr(1)}, {Body: anIr(impl.IrPut, 0, x)}}) {
				t.Errorf("great node %d is right", i)
			}
		}
		if impl.BlocksOk(make([]impl.Block, many)) || impl.BlocksOk(slices.Repeat([]impl.Block{{Body: numIr(1)}}, many)) {
			t.Error("too many blocks are right")
		}
	})
	// What is shared, and not too large, is right.
	wantBlocksOk(t, []impl.Block{{Body: sharedIr(9, numIr(1))}}, true)
	wantBlocksOk(t, []impl.Block{{Body: sharedIr(10, numIr(1))}}, false)
}

// rightIr is a node that is right in its block.
func (s *steps) rightIr(list []impl.Block, block, locals, deep int) impl.Ir {
	kid := func() impl.Ir { return s.rightIr(list, block, locals, deep-1) }
	kids := func(many int) []impl.Ir {
		var all []impl.Ir
		for range many {
			all = append(all, kid())
		}
		return all
	}
	switch kind := s.below(14); {
	case deep <= 1 && kind < 4:
		return numIr([]int{0, 1, -1, least, greatest, 100}[s.below(6)])
	case deep <= 1 && kind < 7 && list[block].Free > 0:
		return freeIr(s.below(list[block].Free))
	case deep <= 1 && kind < 9 && block > 0:
		return selfIr()
	case deep <= 1 && kind < 10:
		return failIr()
	case deep <= 1:
		return localIr(s.below(locals))
	case kind < 3:
		return letIr(kid(), s.rightIr(list, block, locals+1, deep-1))
	case kind < 5 && len(list) > 1:
		n := 1 + s.below(len(list)-1)
		return anIr(impl.IrClos, n, kids(list[n].Free)...)
	case kind < 7:
		return anIr(impl.IrCon, s.below(60), kids(s.below(4))...)
	case kind < 9:
		return anIr([]int{impl.IrIsCon, impl.IrIsNum}[s.below(2)], s.below(9), kids(3)...)
	case kind < 10:
		return anIr(impl.IrField, s.below(9), kid())
	case kind < 11:
		return anIr(impl.IrPut, 0, kid())
	case kind < 12:
		return anIr(impl.IrIf, 0, kids(3)...)
	}
	return anIr([]int{impl.IrApp, impl.IrAdd, impl.IrSub, impl.IrMul, impl.IrLess, impl.IrSame}[s.below(6)], 0, kids(2)...)
}

func (s *steps) rightBlocks(deep int) []impl.Block {
	list := make([]impl.Block, 1+s.below(5))
	for i := 1; i < len(list); i++ {
		list[i].Free = s.below(4)
	}
	for i := range list {
		list[i].Body = s.rightIr(list, i, 1, 1+s.below(deep))
	}
	return list
}

func (s *steps) turnBlocks(list []impl.Block) {
	b := &list[s.below(len(list))]
	all := irsIn(&b.Body)
	x := all[s.below(len(all))]
	switch s.below(8) {
	case 0:
		b.Free += s.below(3) - 1
	case 1:
		x.Op = s.below(22) - 1
	case 2:
		x.N = someNumber(s)
	case 3:
		x.N += s.below(3) - 1
	case 4:
		x.Kids = x.Kids[:len(x.Kids)/2]
	case 5:
		x.Kids = append(x.Kids, numIr(1))
	case 6:
		*x = localIr(s.below(4))
	default:
		*x = copiedIr(*all[s.below(len(all))])
	}
}

func TestRandomBlocks(t *testing.T) {
	s := steps(125)
	met := map[bool]int{}
	for i := range 20000 {
		list := s.rightBlocks(1 + i%5)
		if i%4 == 0 {
			wantBlocksOk(t, list, true)
		}
		for left := s.below(3); left > 0; left-- {
			s.turnBlocks(list)
		}
		want := blocksOkBy(list)
		wantBlocksOk(t, list, want)
		met[want]++
		if t.Failed() {
			return
		}
	}
	if met[true] < 5000 || met[false] < 3000 {
		t.Errorf("blocks are right and not %v times", met)
	}
}

// What is closed, with one thing turned.
func TestBlocksThatAreTurned(t *testing.T) {
	s := steps(126)
	met := map[bool]int{}
	for i := range 2500 {
		list, ok := impl.Close(s.wholeProg(2 + i%5))
		if !ok {
			continue
		}
		s.turnBlocks(list)
		want := blocksOkBy(list)
		wantBlocksOk(t, list, want)
		met[want]++
	}
	if met[true] < 300 || met[false] < 500 {
		t.Errorf("blocks are right and not %v times", met)
	}
}

func wantIrSize(t *testing.T, x impl.Ir, want int) {
	t.Helper()
	if got := impl.IrSize(x); got != want {
		t.Errorf("IrSize(%.300s) is %d, not %d", toldIr(x), got, want)
	}
}

func TestIrSize(t *testing.T) {
	one := numIr(1)
	for want, x := range []impl.Ir{1: one, 2: anIr(impl.IrPut, 0, one), 3: letIr(one, one), 4: anIr(impl.IrIf, 0, one, one, one), 5: letIr(letIr(one, one), one), 6: anIr(impl.IrCon, 3, one, one, one, one, one), 7: letIr(letIr(one, one), letIr(one, one))} {
		if want > 0 {
			wantIrSize(t, x, want)
		}
	}
	// Whatever it is, it is counted.
	wantIrSize(t, impl.Ir{}, 1)
	wantIrSize(t, impl.Ir{Kids: []impl.Ir{}}, 1)
	wantIrSize(t, impl.Ir{Op: -7, N: math.MinInt, Kids: make([]impl.Ir, 4)}, 5)
	wantIrSize(t, anIr(impl.IrNum, 1, one, anIr(99, 9, one)), 4)
	s := steps(127)
	for i := range 3000 {
		list := s.rightBlocks(1 + i%6)
		s.turnBlocks(list)
		for _, b := range list {
			wantIrSize(t, b.Body, irSizeBy(b.Body))
		}
	}
	for _, size := range []int{1, 2, 3, 1999, 2000, 2001, 5000} {
		for _, x := range manyIrs(size) {
			wantIrSize(t, x, size)
		}
	}
}

func TestIrSizeOfGreatNodes(t *testing.T) {
	const many = 1000000
	deep, aslant := numIr(1), numIr(1)
	for range many {
		deep = anIr(impl.IrPut, 0, deep)
		aslant = anIr(impl.IrApp, 0, aslant, numIr(1))
	}
	wide := make([]impl.Ir, many)
	for i := range wide {
		wide[i].Kids = make([]impl.Ir, i%3)
	}
	quickly(t, "IrSize", func() {
		for i, c := range []struct {
			x    impl.Ir
			want int
		}{{deep, many + 1}, {aslant, 2*many + 1}, {impl.Ir{Kids: make([]impl.Ir, many)}, many + 1}, {impl.Ir{Kids: wide}, 2 * many}, {anIr(impl.IrApp, 0, deep, aslant), 3*many + 3}} {
			if got := impl.IrSize(c.x); got != c.want {
				t.Errorf("the size of great node %d is %d, not %d", i, got, c.want)
			}
		}
	})
}

// What several share is counted for each of them; the greatest number stands for all that is greater.
func TestIrSizeOfWhatIsShared(t *testing.T) {
	quickly(t, "IrSize", func() {
		for n := range 80 {
			want := math.MaxInt
			if n < 62 {
				want = 2<<n - 1
			}
			x := sharedIr(n, numIr(1))
			if got := impl.IrSize(x); got != want {
				t.Errorf("the size of what is shared %d times is %d, not %d", n, got, want)
			}
			if n < 62 && impl.IrSize(anIr(impl.IrIf, 0, numIr(1), x, anIr(impl.IrPut, 0, numIr(1)))) != want+4 {
				t.Errorf("the size about what is shared %d times is not %d", n, want+4)
			}
		}
		// 2^62 - 1 twice and one more are just the greatest number.
		x := sharedIr(61, numIr(1))
		for more, want := range []int{math.MaxInt, math.MaxInt, math.MaxInt} {
			if got := impl.IrSize(impl.Ir{Kids: append([]impl.Ir{x, x}, make([]impl.Ir, more)...)}); got != want {
				t.Errorf("the size with %d more is %d", more, got)
			}
		}
		if got := impl.IrSize(impl.Ir{Kids: []impl.Ir{x, {Kids: x.Kids[:1]}}}); got != math.MaxInt-(1<<61-1) {
			t.Errorf("the size with one kid less is %d", got)
		}
		for i, x := range selfIrs() {
			if got := impl.IrSize(x); got != math.MaxInt {
				t.Errorf("the size of node %d, which is within itself, is %d", i, got)
			}
		}
	})
	// One list may be the beginning of another one.
	list := []impl.Ir{anIr(1, 1, numIr(1)), numIr(1), letIr(numIr(1), numIr(1))}
	wantIrSize(t, anIr(impl.IrCon, 0, anIr(1, 1, list[:1]...), anIr(1, 1, list[:2]...), anIr(1, 1, list...), anIr(1, 1, list[1:]...), anIr(1, 1, list[:0]...)), 1+3+4+7+5+1)
}
