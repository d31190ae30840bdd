package tests

import (
	"math"
	"slices"
	"strings"
	"testing"

	"loop.example/g00323/impl"
)

func wantAt(t *testing.T, v impl.Value, path []int, want impl.Value, there bool) {
	t.Helper()
	got, ok := impl.At(v, path)
	if toldValue(got) != toldValue(want) || ok != there {
		t.Errorf("At(%.300s, %v) is %.300s and %v", toldValue(v), path, toldValue(got), ok)
	}
	if by, is := atBy(v, path); toldValue(by) != toldValue(want) || is != there {
		t.Errorf("the second telling of At(%.300s, %v) is %.300s and %v", toldValue(v), path, toldValue(by), is)
	}
}

func TestAt(t *testing.T) {
	one, two, e := intValue(1), intValue(2), conValue("E")
	list := conValue("C", one, conValue("C", two, e))
	for _, c := range []struct {
		path []int
		want impl.Value
	}{{nil, list}, {[]int{}, list}, {[]int{0}, one}, {[]int{1}, list.Kids[1]}, {[]int{1, 0}, two}, {[]int{1, 1}, e}} {
		wantAt(t, list, c.path, c.want, true)
	}
	for _, path := range [][]int{{2}, {3}, {0, 0}, {1, 2}, {1, 1, 0}, {1, 0, 0}, {2, 0}, {7, 1}, {-1}, {1, -1}, {-1, 0}, {0, -1}, {-2}, {math.MaxInt}, {math.MinInt}, {1, math.MaxInt}, {1, math.MinInt}, {1 << 32}, {1<<32 + 1}} {
		wantAt(t, list, path, impl.Value{}, false)
	}
	for _, v := range someValues() {
		wantAt(t, v, nil, v, true)
		wantAt(t, conValue("S", v), []int{0}, v, true)
		wantAt(t, v, []int{-1}, impl.Value{}, false)
		wantAt(t, v, []int{len(v.Kids)}, impl.Value{}, false)
	}
}

// A path goes by kids, of whatever kind a value is.
func TestAtOfValuesThatAreNotRight(t *testing.T) {
	kid := impl.Value{Kind: 9, N: 5, S: "Q", Kids: []impl.Value{{N: 3}}}
	for _, kind := range []int{impl.VlInt, impl.VlCon, impl.VlFun, 0, -1, 4} {
		v := impl.Value{Kind: kind, N: 4, S: "Z", Kids: []impl.Value{{}, kid}}
		wantAt(t, v, []int{1}, kid, true)
		wantAt(t, v, []int{1, 0}, impl.Value{N: 3}, true)
		wantAt(t, v, []int{0}, impl.Value{}, true)
		wantAt(t, v, []int{0, 0}, impl.Value{}, false)
	}
	wantAt(t, impl.Value{}, nil, impl.Value{}, true)
	wantAt(t, impl.Value{}, []int{0}, impl.Value{}, false)
}

// Every path that leads somewhere in random values, and ones beside it.
func TestAtOfRandomValues(t *testing.T) {
	s := steps(116)
	met := map[bool]int{}
	var hold func(whole, v impl.Value, path []int)
	hold = func(whole, v impl.Value, path []int) {
		wantAt(t, whole, path, v, true)
		for _, i := range []int{-1, len(v.Kids), len(v.Kids) + 1} {
			wantAt(t, whole, slices.Concat(path, []int{i}), impl.Value{}, false)
			wantAt(t, whole, slices.Concat(path, []int{i, 0}), impl.Value{}, false)
			met[false]++
		}
		met[true]++
		for i, kid := range v.Kids {
			hold(whole, kid, slices.Concat(path, []int{i}))
		}
	}
	for i := range 1500 {
		v := s.randomValue(1 + i%6)
		if i%2 == 0 {
			s.turnValue(&v)
		}
		hold(v, v, nil)
		if t.Failed() {
			return
		}
	}
	if met[true] < 3000 {
		t.Errorf("only %d paths lead somewhere", met[true])
	}
}

func TestAtOfGreatValues(t *testing.T) {
	const many = 100000
	self := []impl.Value{conValue("S"), intValue(8)}
	self[0].Kids = self
	quickly(t, "At", func() {
		deep := withinCons(many, intValue(4))
		path := make([]int, many)
		if v, ok := impl.At(deep, path); !ok || v.Kind != impl.VlInt || v.N != 4 {
			t.Error("the last one of a deep value is told otherwise")
		}
		if v, ok := impl.At(deep, append(path, 0)); ok || toldValue(v) != toldValue(impl.Value{}) {
			t.Error("behind the last one of a deep value there is something")
		}
		whole, ok := impl.At(deep, nil)
		for range many {
			whole = whole.Kids[0]
		}
		if !ok || whole.N != 4 {
			t.Error("a deep value is told otherwise")
		}
		if v, ok := impl.At(conValue("W", slices.Repeat([]impl.Value{deep}, 10)...), []int{9}); !ok || len(v.Kids) != 1 {
			t.Error("a wide value is told otherwise")
		}
		// What is about a value within itself may be asked for, as long as the path leads out.
		if v, ok := impl.At(self[0], append(make([]int, many), 1)); !ok || v.N != 8 {
			t.Error("what a value within itself leads to is told otherwise")
		}
		if _, ok := impl.At(self[0], append(make([]int, many), 2)); ok {
			t.Error("what a value within itself does not lead to is told")
		}
	})
}

func wantRun(t *testing.T, tree impl.Tree, v impl.Value, want int) {
	t.Helper()
	if got := impl.RunTree(tree, v); got != want {
		t.Errorf("RunTree(%.300s, %.300s) is %d, not %d", toldTree(tree), toldValue(v), got, want)
	}
	if by := runTreeBy(tree, v); by != want {
		t.Errorf("the second telling of RunTree(%.300s, %.300s) is %d, not %d", toldTree(tree), toldValue(v), by, want)
	}
}

func TestRunTreeThatAsksNothing(t *testing.T) {
	for _, v := range someValues() {
		for _, n := range []int{0, 1, 7, greatest, greatest + 1, -1, -2, math.MaxInt, math.MinInt} {
			wantRun(t, doneTree(n), v, n)
			wantRun(t, impl.Tree{Op: impl.TrDone, N: n, Path: []int{-1}, S: "X", Kids: []impl.Tree{failTree()}}, v, n)
			wantRun(t, impl.Tree{Op: impl.TrFail, N: n}, v, -1)
		}
		wantRun(t, impl.Tree{Op: impl.TrFail, S: "X", Kids: []impl.Tree{doneTree(3), doneTree(4)}}, v, -1)
		for _, op := range []int{0, -1, 5, 6, math.MaxInt, math.MinInt} {
			for _, tree := range []impl.Tree{{Op: op}, {Op: op, N: 3}, {Op: op, S: "E", N: 1, Kids: []impl.Tree{doneTree(3), doneTree(4)}}} {
				wantRun(t, tree, v, -1)
				wantRun(t, conTree("E", nil, tree, tree), v, -1)
			}
		}
	}
	wantRun(t, impl.Tree{}, impl.Value{}, -1)
}

func TestRunTreeThatAsks(t *testing.T) {
	con, num := conTree("S", nil, doneTree(3), doneTree(4)), numTree(1, nil, doneTree(3), doneTree(4))
	for _, c := range []struct {
		v        impl.Value
		con, num int
	}{{conValue("S", intValue(1)), 3, 4}, {conValue("N"), 4, 4}, {intValue(1), 4, 3}, {intValue(0), 4, 4}, {intValue(-1), 4, 4}, {funValue(), 4, 4}, {impl.Value{}, 4, 4}, {impl.Value{Kind: impl.VlFun, N: 1, S: "S"}, 4, 4}, {impl.Value{Kind: impl.VlCon, N: 1, S: "S"}, 3, 4}, {impl.Value{Kind: impl.VlInt, N: 1, S: "S"}, 4, 3}, {impl.Value{Kind: 9, N: 1, S: "S"}, 4, 4}, {conValue("s"), 4, 4}, {conValue(""), 4, 4}, {intValue(1 + 1<<32), 4, 4},
		// How many kids a con has is not told by a tree.
		{conValue("S"), 3, 4}, {conValue("S", funValue(), funValue()), 3, 4}} {
		wantRun(t, con, c.v, c.con)
		wantRun(t, num, c.v, c.num)
		about := conValue("C", conValue("E"), conValue("C", c.v))
		wantRun(t, conTree("S", []int{1, 0}, doneTree(3), doneTree(4)), about, c.con)
		wantRun(t, numTree(1, []int{1, 0}, doneTree(3), doneTree(4)), about, c.num)
	}
	deep := conTree("S", nil, numTree(5, []int{0}, doneTree(0), conTree("S", []int{0}, numTree(5, []int{0, 0}, doneTree(1), failTree()), doneTree(2))), numTree(5, nil, doneTree(7), failTree()))
	for _, c := range []struct {
		v    impl.Value
		want int
	}{{withinCons(1, intValue(5)), 0}, {withinCons(2, intValue(5)), 1}, {withinCons(2, intValue(6)), -1}, {withinCons(3, intValue(5)), -1}, {withinCons(1, intValue(6)), 2}, {conValue("S", funValue()), 2}, {intValue(5), 7}, {intValue(6), -1}, {funValue(), -1}} {
		wantRun(t, deep, c.v, c.want)
	}
}

// Where a path leads nowhere there is no alternative, though both kids have one.
func TestRunTreeWherePathsLeadNowhere(t *testing.T) {
	v := conValue("C", intValue(1), conValue("E"))
	for _, path := range [][]int{{2}, {0, 0}, {1, 0}, {-1}, {1, -1}, {math.MaxInt}, {math.MinInt}, {0, 0, 0}} {
		wantRun(t, conTree("E", path, doneTree(3), doneTree(4)), v, -1)
		wantRun(t, numTree(1, path, doneTree(3), doneTree(4)), v, -1)
		wantRun(t, numTree(0, path, doneTree(3), doneTree(4)), v, -1)
		wantRun(t, conTree("", path, doneTree(3), doneTree(4)), v, -1)
		wantRun(t, conTree("C", nil, conTree("E", path, doneTree(3), doneTree(4)), doneTree(5)), v, -1)
		wantRun(t, conTree("N", nil, conTree("E", path, doneTree(3), doneTree(4)), doneTree(5)), v, 5)
		wantRun(t, doneTree(6), v, 6)
	}
}

// A tree without the kid that is asked for leads nowhere; one with more kids leads to one of the first two.
func TestRunTreeOfOtherKids(t *testing.T) {
	for _, op := range []int{impl.TrCon, impl.TrNum} {
		held, failed := conValue("E"), conValue("N")
		if op == impl.TrNum {
			held, failed = intValue(0), intValue(1)
		}
		for many, want := range [][2]int{{-1, -1}, {0, -1}, {0, 1}, {0, 1}, {0, 1}} {
			tree := impl.Tree{Op: op}
			if op == impl.TrCon {
				tree.S = "E"
			}
			for i := range many {
				tree.Kids = append(tree.Kids, doneTree(i))
			}
			wantRun(t, tree, held, want[0])
			wantRun(t, tree, failed, want[1])
		}
	}
}

func TestRunTreeOfGreatTrees(t *testing.T) {
	const many = 100000
	down := doneTree(5)
	right := doneTree(6)
	for n := range many {
		down = conTree("S", []int{0, 0}, down, failTree())
		right = numTree(n, []int{0}, failTree(), right)
	}
	self := make([]impl.Tree, 2)
	self[0], self[1] = doneTree(9), impl.Tree{Op: impl.TrNum, N: 3, Kids: self}
	round := make([]impl.Tree, 2)
	round[0], round[1] = impl.Tree{Op: impl.TrCon, S: "S", Kids: round[1:]}, impl.Tree{Op: impl.TrCon, S: "S", Path: []int{0}, Kids: round[:1]}
	quickly(t, "RunTree", func() {
		for i, c := range []struct {
			tree impl.Tree
			v    impl.Value
			want int
		}{{down, withinCons(3, intValue(1)), 5}, {down, withinCons(2, intValue(1)), -1}, {down, withinCons(1, intValue(1)), -1}, {right, withinCons(1, intValue(many)), 6}, {right, withinCons(1, intValue(77)), -1}, {right, intValue(1), -1},
			{self[1], intValue(3), 9}, {self[1], intValue(4), -1}, {round[0], withinCons(9, intValue(1)), -1}, {round[1], intValue(1), -1}, {down, withinCons(1000000, intValue(1)), 5}} {
			if got := impl.RunTree(c.tree, c.v); got != c.want {
				t.Errorf("great tree %d leads to %d, not to %d", i, got, c.want)
			}
		}
	})
	// One tree may stand at two places.
	twice := conTree("S", []int{0}, doneTree(1), doneTree(2))
	wantRun(t, conTree("S", nil, conTree("S", []int{0}, twice, twice), twice), withinCons(2, intValue(1)), 1)
	same := []impl.Tree{twice, twice}
	wantRun(t, impl.Tree{Op: impl.TrCon, S: "S", Kids: same}, withinCons(1, intValue(1)), 2)
}

// randomTree is right; its paths may lead nowhere.
func (s *steps) randomTree(deep int) impl.Tree {
	if deep == 0 || s.below(6) == 0 {
		if s.below(3) == 0 {
			return failTree()
		}
		return doneTree(s.below(9))
	}
	var path []int
	for left := s.below(3); left > 0; left-- {
		path = append(path, s.below(3))
	}
	if s.below(3) == 0 {
		return numTree(s.below(4), path, s.randomTree(deep-1), s.randomTree(deep-1))
	}
	return conTree(s.pick("N", "E", "S", "C", "T"), path, s.randomTree(deep-1), s.randomTree(deep-1))
}

func (s *steps) turnTree(whole *impl.Tree) {
	all := treesIn(whole)
	t := all[s.below(len(all))]
	switch s.below(6) {
	case 0:
		t.Op = s.below(8) - 1
	case 1:
		t.N = someNumber(s)
	case 2:
		t.S = s.pick("", "N", "S", "E", "C", "T", "Z", "O", "x")
	case 3:
		t.Kids = t.Kids[:len(t.Kids)/2]
	case 4:
		t.Kids = append(t.Kids, s.randomTree(1))
	default:
		t.Path = append(slices.Clone(t.Path), s.below(4)-1)
	}
}

func TestRandomTreesOfCases(t *testing.T) {
	s := steps(117)
	list := datasOf(valueDatas)
	right, leads := map[bool]int{}, map[bool]int{}
	for i := range 20000 {
		tree := s.randomTree(i % 6)
		if !impl.TreeOk(list, tree) {
			t.Fatalf("%s is not right", toldTree(tree))
		}
		for left := s.below(3); left > 0; left-- {
			s.turnTree(&tree)
		}
		want := treeOkBy(list, tree)
		wantTreeOk(t, list, tree, want)
		right[want]++
		for range 3 {
			v := s.randomValue(1 + s.below(4))
			want := runTreeBy(tree, v)
			wantRun(t, tree, v, want)
			leads[want >= 0]++
		}
		if t.Failed() {
			return
		}
	}
	if right[true] < 5000 || right[false] < 5000 || leads[true] < 5000 || leads[false] < 5000 {
		t.Errorf("trees are right and not %v times, and lead somewhere and not %v times", right, leads)
	}
}

func wantTreeOk(t *testing.T, list []impl.Data, tree impl.Tree, want bool) {
	t.Helper()
	if got := impl.TreeOk(list, tree); got != want {
		t.Errorf("TreeOk(%.300s) is %v", toldTree(tree), got)
	}
	if got := treeOkBy(list, tree); got != want {
		t.Errorf("the second telling of TreeOk(%.300s) is %v", toldTree(tree), got)
	}
}

// treesAbout are right where a tree is, and have it at each place that a tree may be at.
func treesAbout(tree impl.Tree) []impl.Tree {
	return []impl.Tree{tree, conTree("S", nil, tree, failTree()), conTree("S", nil, failTree(), tree), numTree(1, []int{0}, tree, doneTree(1)), numTree(1, []int{2, 1}, doneTree(1), numTree(2, nil, tree, tree))}
}

func wantTreeOkAbout(t *testing.T, tree impl.Tree, want bool) {
	t.Helper()
	for _, whole := range treesAbout(tree) {
		wantTreeOk(t, datasOf(valueDatas), whole, want)
	}
}

func TestTreeOkOfEachKind(t *testing.T) {
	two := []impl.Tree{failTree(), failTree()}
	wantTreeOkAbout(t, failTree(), true)
	wantTreeOkAbout(t, conTree("S", nil, doneTree(0), failTree()), true)
	wantTreeOkAbout(t, conTree("T", []int{}, doneTree(0), doneTree(0)), true)
	for n, want := range map[int]bool{0: true, 1: true, greatest: true, greatest + 1: false, -1: true, least: true, least - 1: false, 1 << 31: false, math.MaxInt: false, math.MinInt: false} {
		wantTreeOkAbout(t, doneTree(n), want)
		wantTreeOkAbout(t, numTree(n, nil, failTree(), failTree()), want)
		wantTreeOkAbout(t, numTree(n, []int{0}, failTree(), failTree()), want)
	}
	for _, op := range []int{0, -1, 5, 6, math.MaxInt, math.MinInt} {
		for _, tree := range []impl.Tree{{Op: op}, {Op: op, N: 1}, {Op: op, S: "S", Kids: two}, {Op: op, Kids: two}} {
			wantTreeOkAbout(t, tree, false)
		}
	}
	wantTreeOk(t, nil, impl.Tree{}, false)
}

func TestTreeOkOfCons(t *testing.T) {
	for _, name := range []string{"N", "S", "E", "C", "T"} {
		wantTreeOkAbout(t, conTree(name, nil, doneTree(0), doneTree(1)), true)
		wantTreeOk(t, nil, conTree(name, nil, doneTree(0), doneTree(1)), false)
	}
	for _, name := range []string{"", "Z", "O", "L", "s", "SS", "S ", "Int"} {
		wantTreeOkAbout(t, conTree(name, nil, doneTree(0), doneTree(1)), false)
	}
	odd := []impl.Data{oneData("A", -1), oneData("A", 0, oneCon(""), oneCon("Q"), oneCon("Q", intTy()))}
	for name, want := range map[string]bool{"": true, "Q": true, "A": false} {
		wantTreeOk(t, odd, conTree(name, nil, doneTree(0), doneTree(1)), want)
	}
}

func TestTreeOkOfOtherKids(t *testing.T) {
	for many := range 6 {
		kids := slices.Repeat([]impl.Tree{doneTree(1)}, many)
		wantTreeOkAbout(t, impl.Tree{Op: impl.TrDone, N: 1, Kids: kids}, many == 0)
		wantTreeOkAbout(t, impl.Tree{Op: impl.TrFail, Kids: kids}, many == 0)
		wantTreeOkAbout(t, impl.Tree{Op: impl.TrCon, S: "S", Kids: kids}, many == 2)
		wantTreeOkAbout(t, impl.Tree{Op: impl.TrNum, N: 1, Kids: kids}, many == 2)
	}
}

// What is not named is zero or empty.
func TestTreeOkOfWhatIsNotNamed(t *testing.T) {
	two := []impl.Tree{failTree(), failTree()}
	for _, tree := range []impl.Tree{{Op: impl.TrDone, Path: []int{0}}, {Op: impl.TrDone, S: "S"}, {Op: impl.TrDone, S: "x"}, {Op: impl.TrFail, N: 1}, {Op: impl.TrFail, N: -1}, {Op: impl.TrFail, Path: []int{0}}, {Op: impl.TrFail, Path: []int{0, 1}}, {Op: impl.TrFail, S: "S"}, {Op: impl.TrCon, S: "S", N: 1, Kids: two}, {Op: impl.TrCon, S: "S", N: -1, Kids: two}, {Op: impl.TrNum, S: "S", Kids: two}, {Op: impl.TrNum, N: 1, S: "x", Kids: two}} {
		wantTreeOkAbout(t, tree, false)
	}
	for _, tree := range []impl.Tree{{Op: impl.TrDone, Path: []int{}, Kids: []impl.Tree{}}, {Op: impl.TrFail, Path: []int{}, Kids: []impl.Tree{}}, {Op: impl.TrCon, S: "S", Path: []int{}, Kids: two}} {
		wantTreeOkAbout(t, tree, true)
	}
}

func TestTreeOkOfPaths(t *testing.T) {
	for _, many := range []int{0, 1, 2, treeDeep - 1, treeDeep, treeDeep + 1, 2 * treeDeep} {
		path := slices.Repeat([]int{3}, many)
		wantTreeOkAbout(t, conTree("S", path, doneTree(0), doneTree(1)), many <= treeDeep)
		wantTreeOkAbout(t, numTree(7, path, doneTree(0), doneTree(1)), many <= treeDeep)
		for at := range min(many, treeDeep) {
			for n, want := range map[int]bool{0: true, 1: true, 1 << 40: true, math.MaxInt: true, -1: false, -2: false, math.MinInt: false} {
				turned := slices.Clone(path)
				turned[at] = n
				wantTreeOkAbout(t, conTree("S", turned, doneTree(0), doneTree(1)), want && many <= treeDeep)
				wantTreeOkAbout(t, numTree(7, turned, doneTree(0), doneTree(1)), want && many <= treeDeep)
			}
		}
	}
}

// evenTree has so many asks, as many on each side as there can be.
func evenTree(asks int) impl.Tree {
	if asks == 0 {
		return doneTree(asks)
	}
	return numTree(asks, []int{asks}, evenTree(asks/2), evenTree(asks-1-asks/2))
}

// With two kids or none each, a tree has an odd number of trees in it: 299 are the most, 301 the least that are too many.
func TestTreeOkOfManyTrees(t *testing.T) {
	list := datasOf(valueDatas)
	for _, asks := range []int{0, 1, 2, 148, 149, 150, 151, 300, 1000} {
		down, right := failTree(), failTree()
		for range asks {
			down, right = conTree("S", nil, down, doneTree(1)), numTree(1, []int{0}, doneTree(1), right)
		}
		for _, tree := range []impl.Tree{down, right, evenTree(asks)} {
			if got := len(treesIn(&tree)); got != 2*asks+1 {
				t.Fatalf("there are %d trees", got)
			}
			wantTreeOk(t, list, tree, asks <= 149)
		}
	}
	// One kid too many or too few makes their number even, and is wrong by itself.
	for _, asks := range []int{147, 148, 149} {
		tree := evenTree(asks)
		for _, part := range treesIn(&tree) {
			kids := part.Kids
			part.Kids = append(slices.Clone(kids), failTree())
			wantTreeOk(t, list, tree, false)
			part.Kids = kids
		}
		wantTreeOk(t, list, tree, true)
	}
}

func TestTreeOkOfGreatTrees(t *testing.T) {
	const many = 1000000
	list := datasOf(valueDatas)
	down := failTree()
	for range many {
		down = conTree("S", nil, down, failTree())
	}
	shared := doneTree(0)
	for range 200 {
		shared = numTree(1, nil, shared, shared)
	}
	self := make([]impl.Tree, 2)
	self[0], self[1] = doneTree(1), impl.Tree{Op: impl.TrNum, Kids: self}
	quickly(t, "TreeOk", func() {
		for i, tree := range []impl.Tree{down, shared, self[1], {Op: impl.TrNum, Kids: make([]impl.Tree, many)}, {Op: impl.TrNum, Path: make([]int, many), Kids: []impl.Tree{failTree(), failTree()}}, conTree(strings.Repeat("S", many), nil, failTree(), failTree())} {
			if impl.TreeOk(list, tree) {
				t.Errorf("great tree %d is right", i)
			}
		}
	})
}
