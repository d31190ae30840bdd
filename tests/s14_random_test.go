package tests

import (
	"slices"
	"testing"

	"loop.example/g00323/impl"
)

func TestGenOfRandomBlocks(t *testing.T) {
	s := steps(144)
	met := map[bool]int{}
	for i := range 12000 {
		list := s.rightBlocks(1 + i%6)
		if _, ok := holdGen(t, list); !ok {
			t.Fatalf("%.500s is not made", toldBlocks(list))
		}
		for left := s.below(3); left > 0; left-- {
			s.turnBlocks(list)
		}
		_, ok := holdGen(t, list)
		met[ok]++
	}
	if met[true] < 4000 || met[false] < 3000 {
		t.Errorf("blocks are made and not %v times", met)
	}
}

func addFuns(own *pieces, list []impl.Fun) {
	addList(own, list)
	for _, f := range list {
		addList(own, f.List)
	}
}

func spoilFuns(list []impl.Fun) {
	for i := range list {
		places := list[i].List[:cap(list[i].List)]
		for j := range places {
			places[j] = anOp(99, 9, 9)
		}
		list[i].Free = 99
	}
	for i := range list[:cap(list)] {
		list[:cap(list)][i].Free = 99
	}
}

// holdGenMemory holds that no block is written into, and that what is answered is new, each list of it by itself.
func holdGenMemory(t *testing.T, list []impl.Block) bool {
	t.Helper()
	kept := toldBlocksWithRoom(list)
	funs, ok := impl.Gen(list)
	if toldBlocksWithRoom(list) != kept {
		t.Fatalf("%.500s is written into", kept)
	}
	want := toldFuns(funs)
	var given, own pieces
	addBlocks(&given, list)
	addFuns(&own, funs)
	if own.overlap() {
		t.Fatalf("Gen(%.500s): two lists share memory", toldBlocks(list))
	}
	for _, mine := range own.list {
		if slices.ContainsFunc(given.list, func(other piece) bool { return mine.begin < other.end && other.begin < mine.end }) {
			t.Fatalf("Gen(%.500s) shares memory with the blocks", toldBlocks(list))
		}
	}
	again, is := impl.Gen(list)
	spoilFuns(funs)
	if toldFuns(again) != want || is != ok {
		t.Fatalf("asked again, Gen(%.500s) is %v and %.500s", toldBlocks(list), is, toldFuns(again))
	}
	if toldBlocksWithRoom(list) != kept {
		t.Fatalf("%.500s is written into by what is answered", kept)
	}
	return ok
}

func TestFunsAreNewMemory(t *testing.T) {
	s := steps(145)
	met := map[bool]int{}
	for i := range 4000 {
		list := s.rightBlocks(1 + i%5)
		for left := s.below(3); left > 0; left-- {
			s.turnBlocks(list)
		}
		met[holdGenMemory(t, blocksWithRoom(list))]++
	}
	if met[true] < 1200 || met[false] < 800 {
		t.Errorf("blocks are made and not %v times", met)
	}
	// Blocks whose bodies are alike, or share their kids, have places of their own each.
	kids := []impl.Ir{numIr(1), localIr(0), numIr(3)}
	sum := impl.Ir{Op: impl.IrAdd, Kids: kids[:2]}
	list := slices.Repeat([]impl.Block{{Body: sum}, {Body: impl.Ir{Op: impl.IrCon, Kids: kids}}, {Body: letIr(sum, sum)}}, 3)
	if !holdGenMemory(t, list) {
		t.Error("blocks that share their kids are not made")
	}
	if !holdGenMemory(t, blocksWithRoom(manyBlocks(60))) || holdGenMemory(t, blocksWithRoom(manyBlocks(61))) {
		t.Error("many blocks are not made as they should be")
	}
}

func TestPlacesAreNotWrittenInto(t *testing.T) {
	s := steps(146)
	for i := range 1000 {
		list := funsWithRoom(s.rightFuns(1 + i%9))
		if i%2 == 0 {
			s.turnFuns(list)
		}
		kept := toldFunsWithRoom(list)
		many := impl.Places(list)
		if toldFunsWithRoom(list) != kept || impl.Places(list) != many {
			t.Fatalf("%.500s is written into", kept)
		}
	}
}
