package tests

import (
	"slices"
	"strconv"
	"strings"
	"testing"

	"loop.example/g00323/impl"
)

// What is verified never lacks a value: along any way there are as many values at each place as was found.

// walk is a function at work, of whose values only from which place each one comes is kept; the argument comes from none.
type walk struct {
	places []impl.Op
	values []int
	at     int
}

// step tells whether the walk goes on; which way, is the asker's.
func (w *walk) step(t *testing.T, way int) bool {
	t.Helper()
	o := w.places[w.at]
	takes, puts := takesAndPuts(o)
	if len(w.values)-takes < 1 {
		t.Fatalf("at place %d of %.500s a value is lacking: there are %v", w.at, placesText(aFunction(0, w.places...)), w.values)
	}
	if o.Code == impl.BcLocal {
		_ = w.values[o.N]
	}
	w.values = w.values[:len(w.values)-takes]
	if w.values[0] != -1 {
		t.Fatalf("at place %d the argument is gone", w.at)
	}
	for range puts {
		w.values = append(w.values, w.at)
	}
	on := waysOn(w.at, o)
	if len(on) == 0 {
		if o.Code == impl.BcRet && len(w.values) != 1 {
			t.Fatalf("at a ret of %.500s %d values are left", placesText(aFunction(0, w.places...)), len(w.values))
		}
		return false
	}
	w.at = on[way%len(on)]
	return true
}

// holdWays goes some ways through each function that is verified; it tells how many places were met.
func (s *steps) holdWays(t *testing.T, list []impl.Fun) int {
	t.Helper()
	many := 0
	for i, f := range list {
		depths, ok := impl.Depths(list, i)
		if !ok || len(depths) != len(f.List) {
			t.Fatalf("Depths(%.500s, %d) is %v and %v", toldFuns(list), i, ok, depths)
		}
		met := map[int]bool{}
		for range 12 {
			w := walk{places: f.List, values: []int{-1}}
			for range 3 * len(f.List) {
				if len(w.values) != depths[w.at] || len(w.values) > depthMost {
					t.Fatalf("at place %d of %.500s there are %d values, not %d", w.at, placesText(f), len(w.values), depths[w.at])
				}
				met[w.at] = true
				if !w.step(t, s.below(2)) {
					break
				}
			}
		}
		many += len(met)
		holdMet(t, f, depths)
	}
	return many
}

// holdMet holds that what is never met is just that to which no way leads.
func holdMet(t *testing.T, f impl.Fun, depths []int) {
	t.Helper()
	met := map[int]int{0: 1}
	for left := []int{0}; len(left) > 0; {
		on := waysOn(left[0], f.List[left[0]])
		left = left[1:]
		for _, next := range on {
			if met[next] == 0 {
				met[next] = 1
				left = append(left, next)
			}
		}
	}
	for at, depth := range depths {
		if (met[at] == 1) != (depth >= 1) || depth < 1 && depth != -1 {
			t.Fatalf("place %d of %.500s is met: %v, and its depth is %d", at, placesText(f), met[at] == 1, depth)
		}
	}
}

func TestWaysThroughSteadyFuns(t *testing.T) {
	s := steps(154)
	many := 0
	for i := range 3000 {
		many += s.holdWays(t, s.steadyFuns(1+i%3, 1+i%40))
	}
	turned := 0
	for i := range 10000 {
		list := s.steadyFuns(1+i%2, 1+i%20)
		for range 1 + i%3 {
			s.turnOp(list)
		}
		if impl.Verify(list) {
			turned++
			many += s.holdWays(t, list)
		}
	}
	if many < 40000 || turned < 2500 {
		t.Errorf("%d places are met, and %d that were turned are verified", many, turned)
	}
}

func TestWaysThroughAllSmallFuns(t *testing.T) {
	s := steps(155)
	all := smallOps(3)
	verified := 0
	for _, a := range all {
		for _, b := range all {
			for _, c := range all {
				list := []impl.Fun{aFunction(0, a, b, c)}
				if impl.Verify(list) {
					verified++
					s.holdWays(t, list)
				}
			}
		}
	}
	if verified < 40 {
		t.Errorf("only %d are verified", verified)
	}
}

// holdRunDepths runs functions place by place: each one that is called has at each place as many values as was found.
func holdRunDepths(t *testing.T, funs []impl.Fun, steps int) {
	t.Helper()
	var depths [][]int
	for i := range funs {
		one, ok := impl.Depths(funs, i)
		if !ok {
			t.Fatalf("function %d of %.1000s is not verified", i, funsText(funs))
		}
		depths = append(depths, one)
	}
	k := mill{funs: funs, visits: []*visit{{values: []*ware{nil}}}}
	defer func() {
		if why := recover(); why != nil && why != (nothingFits{}) {
			t.Fatalf("%.1000s: %v", funsText(funs), why)
		}
	}()
	for range steps {
		v := k.visits[len(k.visits)-1]
		if got, want := len(v.values), depths[v.number][v.next]; got != want {
			t.Fatalf("at place %d of function %d of %.1000s there are %d values, not %d", v.next, v.number, funsText(funs), got, want)
		}
		if k.step() != nil {
			return
		}
	}
}

// holdVerified holds what is made of a program's blocks: it is verified where no place would have too many values.
func (s *steps) holdVerified(t *testing.T, p impl.Prog) (bool, bool) {
	t.Helper()
	blocks, ok := impl.Close(p)
	if !ok {
		return false, false
	}
	funs, ok := impl.Gen(blocks)
	if !ok {
		return false, false
	}
	verified := holdDepths(t, funs)
	most := 0
	for _, b := range blocks {
		most = max(most, mostValues(b.Body, 1))
	}
	if verified != (most <= depthMost) {
		t.Fatalf("what is made of %.1000s is verified: %v, with at most %d values", impl.Write(p), verified, most)
	}
	if verified {
		s.holdWays(t, funs)
		holdRunDepths(t, funs, 2000)
	}
	return true, verified
}

// mostValues is how many values there are at most, the argument with them, up to where a node that has so many below it is done.
func mostValues(x impl.Ir, below int) int {
	most := below
	if !neverEnds(x) {
		most++
	}
	for i, kid := range x.Kids {
		at := below
		if !isFork(x.Op) {
			at += i
		}
		most = max(most, mostValues(kid, at))
		// Of a fork, the last kid does not come behind the one ahead of it.
		if neverEnds(kid) && (!isFork(x.Op) || i == 0) {
			break
		}
	}
	return most
}

// neverEnds is of a node behind which nothing comes: it fails, whichever way it goes.
func neverEnds(x impl.Ir) bool {
	switch {
	case x.Op == impl.IrFail:
		return true
	case isFork(x.Op):
		return neverEnds(x.Kids[0]) || neverEnds(x.Kids[1]) && neverEnds(x.Kids[2])
	}
	return slices.ContainsFunc(x.Kids, neverEnds)
}

func TestVerifyOfMadePrograms(t *testing.T) {
	s := steps(156)
	made := 0
	for i := range 2000 {
		p := s.madeProg(1 + i%7)
		if i%2 == 0 {
			p = s.wholeProg(1 + i%7)
		}
		if is, verified := s.holdVerified(t, p); is && verified {
			made++
		}
	}
	if made < 1800 {
		t.Errorf("only %d programs are verified", made)
	}
}

func TestVerifyOfPrograms(t *testing.T) {
	s := steps(157)
	for _, c := range typedPrograms() {
		if made, verified := s.holdVerified(t, evalProg(c[1])); !made || !verified {
			t.Errorf("%s is verified: %v", c[1], verified)
		}
	}
	for src, want := range map[string]string{
		"5":                  "1 2",
		"(fun x -> x) 3":     "1 2 3 2; 1 2",
		"rec f x = f x in f": "1 2 3 2; 1 2 3 2",
		"let a = 4 in fun x -> fun y -> x + y * a":            "1 2 3 3 2; 1 2 3 2; 1 2 3 4 3 2",
		"1 + (case S 3 of { S x -> x; N -> 0 })":              "1 2 3 3 4 3 4 4 3 4 3 4 3 4 3 2",
		"case 3 of { 0 -> 1; 7 -> 2; x -> x }":                "1 2 3 2 3 2 3 2 3 2 3 2",
		"rec f n = if n then put n + f (n - 1) else 0 in f 3": "1 2 3 4 3 2; 1 2 1 2 2 3 4 5 4 3 2 1 2",
	} {
		blocks, _ := impl.Close(closeProg(src))
		funs, ok := impl.Gen(blocks)
		var texts []string
		for i := range funs {
			depths, _ := impl.Depths(funs, i)
			var words []string
			for _, depth := range depths {
				words = append(words, strconv.Itoa(depth))
			}
			texts = append(texts, strings.Join(words, " "))
		}
		if got := strings.Join(texts, "; "); !ok || got != want {
			t.Errorf("of %s, which is %s, the depths are %s, not %s", src, funsText(funs), got, want)
		}
	}
}

func TestVerifyOfNames(t *testing.T) {
	s := steps(158)
	few := namer{&s, []string{"a", "b", "c"}}
	made := 0
	for i := range 1000 {
		p := impl.Prog{Datas: datasOf(closeDatas), Main: few.made(nil, 2+i%6)}
		if is, verified := s.holdVerified(t, p); is && verified {
			made++
		}
	}
	if made < 600 {
		t.Errorf("only %d programs are verified", made)
	}
}

// What is made may have more values than may be verified.
func TestVerifyOfWhatIsMadeTooHigh(t *testing.T) {
	s := steps(159)
	for _, many := range []int{1, 2, 3, 5, 19, 20} {
		for deep := 1; deep <= 12; deep++ {
			p := wideProg(many, aNum(1), dataTy("Q"))
			p.Datas = append(p.Datas, oneData("Q", 0, oneCon("Z"), oneCon("P", slices.Repeat([]impl.Ty{dataTy("Q")}, many)...)))
			p.Main = aCon("Z")
			for range deep {
				p.Main = aCon("P", append(slices.Repeat([]impl.Node{aCon("Z")}, many-1), p.Main)...)
			}
			want := 1+(many-1)*deep+1 <= depthMost
			for _, main := range []impl.Node{p.Main, anApp(aFun("x", p.Main), aNum(1))} {
				p.Main = main
				if made, verified := s.holdVerified(t, p); !made || verified != want {
					t.Errorf("%d deep with %d kids it is made: %v, and verified: %v", deep, many, made, verified)
				}
			}
		}
	}
	for _, values := range []int{0, 1, 56, 57, 58, 59, 60, 100, 1000} {
		for body, more := range map[string]int{"one": 2, "let": 3, "fail": 1} {
			x := map[string]impl.Ir{"one": numIr(1), "let": letIr(numIr(1), localIr(1)), "fail": failIr()}[body]
			for block := range 3 {
				list := fourBlocks()
				list[block].Body = behind(values, x)
				funs, ok := impl.Gen(list)
				if verified := holdDepths(t, funs); !ok || verified != (values+more <= depthMost) {
					t.Errorf("behind %d values %s is verified: %v", values, body, verified)
				}
			}
		}
	}
}

func TestVerifyOfRandomBlocks(t *testing.T) {
	s := steps(160)
	for i := range 5000 {
		list := s.rightBlocks(1 + i%6)
		funs, ok := impl.Gen(list)
		if !ok {
			t.Fatalf("%.500s is not made", toldBlocks(list))
		}
		if !holdDepths(t, funs) {
			t.Fatalf("%.1000s is not verified", funsText(funs))
		}
		s.holdWays(t, funs)
	}
}

// As many functions and places as there may be, and many more.
func TestVerifyOfGreatLists(t *testing.T) {
	fill := func(o impl.Op, first ...impl.Op) []impl.Op {
		places := append(first, slices.Repeat([]impl.Op{o}, placesMost-len(first)-1)...)
		return append(places, anOp(impl.BcFail, 0, 0))
	}
	forks := make([]impl.Op, 0, placesMost)
	for at := 0; at < placesMost-2; at += 2 {
		forks = append(forks, oneOp(), anOp(impl.BcZero, (at*7+2)/2*2%(placesMost-2), 0))
	}
	forks = append(forks, anOp(impl.BcJump, 0, 0), anOp(impl.BcFail, 0, 0))
	back := make([]impl.Op, placesMost)
	for at := range back {
		back[at] = anOp(impl.BcJump, max(at-1, 1), 0)
	}
	back[0].N = placesMost - 1
	quickly(t, "Verify", func() {
		for i, c := range []struct {
			places []impl.Op
			want   bool
		}{
			{fill(anOp(impl.BcPut, 0, 0), oneOp()), true}, {fill(anOp(impl.BcFail, 0, 0)), true}, {fill(anOp(impl.BcJump, 0, 0)), true}, {forks, true}, {back, true},
			{fill(oneOp()), false}, {fill(anOp(impl.BcAdd, 0, 0)), false}, {fill(anOp(impl.BcZero, 0, 0), oneOp()), false}, {fill(retOp(), oneOp()), true},
		} {
			if len(c.places) != placesMost {
				t.Errorf("there are %d places", len(c.places))
			}
			list := slices.Repeat([]impl.Fun{{List: c.places}}, blocksMost)
			if got := impl.Verify(list); got != c.want {
				t.Errorf("great list %d is verified: %v", i, got)
			}
			if depths, ok := impl.Depths(list, blocksMost-1); ok != c.want || ok && len(depths) != placesMost {
				t.Errorf("of great list %d it is %v and %d", i, ok, len(depths))
			}
		}
		const many = 3000000
		places := slices.Repeat([]impl.Op{anOp(impl.BcFail, 0, 0)}, many)
		funs := slices.Repeat([]impl.Fun{{List: places}}, many)
		for at, list := range [][]impl.Fun{funs, make([]impl.Fun, many), {{List: places}}, {aFunction(0, opsOf("local 0, ret")...), {List: places}}} {
			for _, i := range []int{0, 1, many - 1} {
				if depths, ok := impl.Depths(list, i); ok || depths != nil || impl.Verify(list) {
					t.Errorf("too great a list, %d, is verified", at)
				}
			}
		}
	})
}
