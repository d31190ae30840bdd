package tests

import (
	"slices"
	"testing"

	"loop.example/g00323/impl"
)

func irWithRoom(x impl.Ir) impl.Ir {
	var kids []impl.Ir
	for _, kid := range x.Kids {
		kids = append(kids, irWithRoom(kid))
	}
	return impl.Ir{Op: x.Op, N: x.N, Kids: roomBehind(kids, numIr(77))}
}

func blocksWithRoom(list []impl.Block) []impl.Block {
	var blocks []impl.Block
	for _, b := range list {
		blocks = append(blocks, impl.Block{Free: b.Free, Body: irWithRoom(b.Body)})
	}
	return roomBehind(blocks, impl.Block{Free: 77})
}

func toldIrWithRoom(x impl.Ir) string {
	text := toldIr(impl.Ir{Op: x.Op, N: x.N})
	for _, kid := range x.Kids[:cap(x.Kids)] {
		text += toldIrWithRoom(kid)
	}
	return text + "."
}

func toldBlocksWithRoom(list []impl.Block) string {
	text := ""
	for _, b := range list[:cap(list)] {
		text += toldBlocks([]impl.Block{{Free: b.Free}}) + toldIrWithRoom(b.Body)
	}
	return text
}

func addIr(lists *pieces, x impl.Ir) {
	addList(lists, x.Kids)
	for _, kid := range x.Kids {
		addIr(lists, kid)
	}
}

func addBlocks(lists *pieces, list []impl.Block) {
	addList(lists, list)
	for _, b := range list {
		addIr(lists, b.Body)
	}
}

func spoilBlocks(list []impl.Block) {
	for i := range list {
		for _, x := range irsIn(&list[i].Body) {
			for j := range x.Kids[:cap(x.Kids)] {
				x.Kids[:cap(x.Kids)][j].Op = 99
			}
		}
		list[i] = impl.Block{Free: 99}
	}
	for i := range list[:cap(list)] {
		list[:cap(list)][i].Free = 99
	}
}

// holdCloseMemory holds that no program is written into, and that what is answered is new, each list of it by itself.
func holdCloseMemory(t *testing.T, p impl.Prog) bool {
	t.Helper()
	kept := toldWithRoom(p)
	list, ok := impl.Close(p)
	want := toldBlocks(list)
	var lists, texts, own pieces
	addProg(&lists, &texts, p)
	addBlocks(&own, list)
	if own.overlap() {
		t.Fatalf("Close(%s): two lists share memory", toldProg(p))
	}
	for _, mine := range own.list {
		if slices.ContainsFunc(lists.list, func(other piece) bool { return mine.begin < other.end && other.begin < mine.end }) {
			t.Fatalf("Close(%s) shares memory with the program", toldProg(p))
		}
	}
	spoilBlocks(list)
	if toldWithRoom(p) != kept {
		t.Fatalf("%s was written into", kept)
	}
	if again, is := impl.Close(p); toldBlocks(again) != want || is != ok {
		t.Fatalf("asked again, Close(%s) is %s and %v", toldProg(p), toldBlocks(again), is)
	}
	return ok
}

func TestBlocksAreNewMemory(t *testing.T) {
	s := steps(129)
	met := map[bool]int{}
	for i := range 1500 {
		p := s.madeProg(1 + i%5)
		for left := s.below(4) - 1; left > 0; left-- {
			s.swappedNode(&p)
		}
		if i%7 == 0 {
			s.turned(&p)
		}
		met[holdCloseMemory(t, withRoom(p))]++
	}
	if met[true] < 700 || met[false] < 200 {
		t.Errorf("programs are closed and not %v times", met)
	}
	// What is kept, what is asked, and bodies stand in several places here.
	for _, src := range []string{"5", "fun t -> case t of { T 1 2 _ -> 0; T _ 2 _ -> 1; T x _ y -> (fun z -> x + y + z) (x + y) }", "let a = 1 in let b = 2 in C (fun x -> a + b) (C (fun y -> b + a) E)", "case C 1 (C 2 E) of { C x (C y t) -> fun z -> C x (C y (C z t)); C _ _ -> fun z -> E; _ -> fun z -> E }", "rec f x = (fun y -> f y + f x) x in f 1", "1 2"} {
		if holdCloseMemory(t, withRoom(closeProg(src))) != (src != "1 2") {
			t.Errorf("%s is not closed as it should be", src)
		}
	}
}

// Nodes of a program may share lists of kids; what is told of them shares none.
func TestBlocksOfWhatIsShared(t *testing.T) {
	kids := []impl.Node{aVar("a"), aNum(2), aNum(3)}[:2]
	sum := node(impl.NdAdd, kids...)
	alts := []impl.Node{aVar("a"), anAlt(numPat(1), sum), anAlt(varPat("b"), sum), anAlt(anyPat(), aFun("x", sum))}
	first := impl.Node{Op: impl.NdCase, Kids: alts[:2]}
	second := impl.Node{Op: impl.NdCase, Kids: alts[:3]}
	function := aFun("x", sum)
	list := aCon("C", function, aCon("C", function, aCon("E")))
	p := impl.Prog{Datas: datasOf(closeDatas), Main: aLet("a", aNum(1), aCon("S", node(impl.NdAdd, first, node(impl.NdAdd, second, first))))}
	if !holdCloseMemory(t, p) {
		t.Error("cases that share their alternatives are not closed")
	}
	if _, blocks := holdRun(t, p); blocksText(blocks) != "0: [1 | #1(([l1 | 1?(l2, (l1 + 2), !)] + ([l1 | 1?(l2, (l1 + 2), (l1 + 2))] + [l1 | 1?(l2, (l1 + 2), !)])))]" {
		t.Errorf("cases that share their alternatives are closed as %s", blocksText(blocks))
	}
	p.Main = aLet("a", aNum(1), list)
	if !holdCloseMemory(t, p) {
		t.Error("functions that are shared are not closed")
	}
	if _, blocks := holdRun(t, p); blocksText(blocks) != "0: [1 | #3(<1 l1>, #3(<2 l1>, #2))]; 1: (f0 + 2); 1: (f0 + 2)" {
		t.Errorf("functions that are shared are closed as %s", blocksText(blocks))
	}
}

func TestBlocksAreNotWrittenInto(t *testing.T) {
	s := steps(130)
	for i := range 4000 {
		list := s.rightBlocks(1 + i%5)
		for left := s.below(3); left > 0; left-- {
			s.turnBlocks(list)
		}
		list = blocksWithRoom(list)
		kept := toldBlocksWithRoom(list)
		right, size := impl.BlocksOk(list), impl.IrSize(list[0].Body)
		if toldBlocksWithRoom(list) != kept {
			t.Fatalf("%s is written into", kept)
		}
		if impl.BlocksOk(list) != right || impl.IrSize(list[0].Body) != size || right != blocksOkBy(list) || size != irSizeBy(list[0].Body) {
			t.Fatalf("asked again, %s is told otherwise", toldBlocks(list))
		}
	}
	// Lists that several nodes share are only read.
	kids := slices.Repeat([]impl.Ir{numIr(1)}, 3)[:2]
	list := []impl.Block{{Body: letIr(anIr(impl.IrApp, 0, kids...), anIr(impl.IrAdd, 0, kids...))}, {Free: 2, Body: anIr(impl.IrClos, 1, kids...)}}
	kept := toldBlocksWithRoom(list)
	wantBlocksOk(t, list, true)
	wantIrSize(t, list[0].Body, 7)
	if toldBlocksWithRoom(list) != kept {
		t.Error("a list that is shared is written into")
	}
}
