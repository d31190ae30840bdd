package tests

import (
	"fmt"
	"slices"
	"strings"
	"testing"

	"loop.example/g00323/impl"
)

// A second telling of chapter 14. It counts how many places a node has ahead of putting any: where each one stands follows from that alone, and where a local stands is looked for upwards from the spot.

// A spot is a node of a body, and what is about it: it is kid number which of that.
type spot struct {
	impl.Ir
	about *spot
	which int
}

func isFork(op int) bool { return op == impl.IrIf || op == impl.IrIsCon || op == impl.IrIsNum }

// manyPlacesBy is one for each node, and one more for each fork.
func manyPlacesBy(x impl.Ir) int {
	many := 0
	for _, part := range irsIn(&x) {
		many++
		if isFork(part.Op) {
			many++
		}
	}
	return many
}

// letsOf are those in whose second kids a spot is, the outermost one first.
func letsOf(s *spot) []*spot {
	var list []*spot
	for ; s.about != nil; s = s.about {
		if s.about.Op == impl.IrLet && s.which == 1 {
			list = append(list, s.about)
		}
	}
	slices.Reverse(list)
	return list
}

// valuesBelow is the argument, and of each node about a spot the kids that are done and still there.
func valuesBelow(s *spot) int {
	many := 1
	for ; s.about != nil; s = s.about {
		if !isFork(s.about.Op) {
			many += s.which
		}
	}
	return many
}

func localStandsBy(s *spot) int {
	if s.N == 0 {
		return 0
	}
	return valuesBelow(letsOf(s)[s.N-1])
}

var plainCodesBy = map[int]string{impl.IrNum: "num", impl.IrLocal: "local", impl.IrFree: "free", impl.IrSelf: "self", impl.IrClos: "clos", impl.IrApp: "call", impl.IrLet: "slide", impl.IrAdd: "add", impl.IrSub: "sub", impl.IrMul: "mul", impl.IrLess: "less", impl.IrSame: "same", impl.IrCon: "con", impl.IrPut: "put", impl.IrField: "field", impl.IrFail: "fail"}

func codeNamed(name string) int { return slices.Index(codeNames, name) + 1 }

// lay puts the places of a spot from there on, and tells where they end.
func lay(places []impl.Op, s *spot, from int) int {
	var ends []int
	end := from
	for i, kid := range s.Kids {
		if isFork(s.Op) && i > 0 {
			end++
		}
		end = lay(places, &spot{kid, s, i}, end)
		ends = append(ends, end)
	}
	if isFork(s.Op) {
		asked := anOp(codeNamed("zero"), ends[1]+1, 0)
		if s.Op != impl.IrIf {
			asked = anOp(codeNamed(map[int]string{impl.IrIsCon: "iscon", impl.IrIsNum: "isnum"}[s.Op]), s.N, ends[1]+1)
		}
		places[ends[0]], places[ends[1]] = asked, anOp(codeNamed("jump"), ends[2], 0)
		return end
	}
	places[end] = anOp(codeNamed(plainCodesBy[s.Op]), s.N, 0)
	switch s.Op {
	case impl.IrLocal:
		places[end].N = localStandsBy(s)
	case impl.IrClos, impl.IrCon:
		places[end].M = len(s.Kids)
	}
	return end + 1
}

func genBy(list []impl.Block) ([]impl.Fun, bool) {
	if !blocksOkBy(list) {
		return nil, false
	}
	var funs []impl.Fun
	for _, b := range list {
		places := make([]impl.Op, manyPlacesBy(b.Body)+1)
		places[lay(places, &spot{Ir: b.Body}, 0)] = retOp()
		funs = append(funs, aFunction(b.Free, places...))
	}
	if !funsOkBy(funs) {
		return nil, false
	}
	return funs, true
}

// holdGen holds the answer against the second telling, and promise 14: what is made of blocks is right.
func holdGen(t *testing.T, list []impl.Block) ([]impl.Fun, bool) {
	t.Helper()
	got, ok := impl.Gen(list)
	want, wantOk := genBy(list)
	if ok != wantOk || toldFuns(got) != toldFuns(want) {
		t.Fatalf("Gen(%.500s) is %v and\n%.1000s, not %v and\n%.1000s", toldBlocks(list), ok, toldFuns(got), wantOk, toldFuns(want))
	}
	if impl.FunsOk(got) != ok {
		t.Fatalf("Gen(%.500s) is %v, and that it is right %v", toldBlocks(list), ok, !ok)
	}
	if !ok {
		return nil, false
	}
	if len(got) != len(list) {
		t.Fatalf("of %d blocks there are %d functions", len(list), len(got))
	}
	nodes := 0
	for i, b := range list {
		nodes += impl.IrSize(b.Body)
		holdHeights(t, got[i])
		if got[i].Free != b.Free {
			t.Errorf("function %d keeps %d, not %d", i, got[i].Free, b.Free)
		}
	}
	if places := impl.Places(got); places < nodes+len(list) {
		t.Errorf("of %d nodes in %d blocks there are %d places", nodes, len(list), places)
	}
	return got, true
}

// takesAndPuts is what a place does to how many values there are.
func takesAndPuts(o impl.Op) (int, int) {
	switch name := codeName(o.Code); name {
	case "num", "local", "free", "self":
		return 0, 1
	case "clos", "con":
		return o.M, 1
	case "call", "add", "sub", "mul", "less", "same", "slide":
		return 2, 1
	case "ret", "zero", "iscon", "isnum":
		return 1, 0
	case "field", "put":
		return 1, 1
	}
	return 0, 0
}

// waysOn are the places to which one leads.
func waysOn(at int, o impl.Op) []int {
	switch codeName(o.Code) {
	case "ret", "fail":
		return nil
	case "jump":
		return []int{o.N}
	case "zero":
		return []int{at + 1, o.N}
	case "iscon", "isnum":
		return []int{at + 1, o.M}
	}
	return []int{at + 1}
}

// holdHeights holds that whichever way a place is met, there are as many values, that none is lacking, that each local is there, and that one is left with the argument where it ends.
func holdHeights(t *testing.T, f impl.Fun) {
	t.Helper()
	heights := map[int]int{0: 1}
	for left := []int{0}; len(left) > 0; {
		at := left[len(left)-1]
		left = left[:len(left)-1]
		o, height := f.List[at], heights[at]
		takes, puts := takesAndPuts(o)
		if height-1 < takes || o.Code == impl.BcLocal && o.N >= height || o.Code == impl.BcRet && height != 2 {
			t.Fatalf("at place %d of %.500s there are %d values", at, toldFuns([]impl.Fun{f}), height)
		}
		for _, next := range waysOn(at, o) {
			then := height - takes + puts
			if was, met := heights[next]; !met {
				heights[next] = then
				left = append(left, next)
			} else if was != then {
				t.Fatalf("at place %d of %.500s there are %d values and %d", next, toldFuns([]impl.Fun{f}), was, then)
			}
		}
	}
}

// placesText names each place with what it names: N, and M.
func placesText(f impl.Fun) string {
	var texts []string
	for _, o := range f.List {
		text := codeName(o.Code)
		switch text {
		case "num", "local", "free", "field", "zero", "jump":
			text += fmt.Sprintf(" %d", o.N)
		case "clos", "con", "iscon", "isnum":
			text += fmt.Sprintf(" %d %d", o.N, o.M)
		}
		texts = append(texts, text)
	}
	return strings.Join(texts, ", ")
}

func funsText(list []impl.Fun) string {
	var texts []string
	for _, f := range list {
		texts = append(texts, fmt.Sprintf("%d: %s", f.Free, placesText(f)))
	}
	return strings.Join(texts, "; ")
}
