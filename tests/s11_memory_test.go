package tests

import (
	"slices"
	"strings"
	"testing"

	"loop.example/g00323/impl"
)

func treeWithRoom(t impl.Tree) impl.Tree {
	var kids []impl.Tree
	for _, kid := range t.Kids {
		kids = append(kids, treeWithRoom(kid))
	}
	return impl.Tree{Op: t.Op, N: t.N, Path: roomBehind(t.Path, 79), S: strings.Clone(t.S), Kids: roomBehind(kids, doneTree(79))}
}

func toldTreeWithRoom(t impl.Tree) string {
	text := toldTree(impl.Tree{Op: t.Op, N: t.N, Path: t.Path[:cap(t.Path)], S: t.S})
	for _, kid := range t.Kids[:cap(t.Kids)] {
		text += toldTreeWithRoom(kid)
	}
	return text + "."
}

func addTree(lists, texts *pieces, t impl.Tree) {
	addList(lists, t.Path)
	addList(lists, t.Kids)
	texts.addText(t.S)
	for _, kid := range t.Kids {
		addTree(lists, texts, kid)
	}
}

func spoilTree(t impl.Tree) {
	clear(t.Path[:cap(t.Path)])
	for i := range t.Kids {
		spoilTree(t.Kids[i])
	}
	for i := range t.Kids[:cap(t.Kids)] {
		t.Kids[:cap(t.Kids)][i] = impl.Tree{Op: 99, S: "gone"}
	}
}

// holdTreeMemory holds that nothing is written into, and that what Trees answers is new, each list of it by itself.
func holdTreeMemory(t *testing.T, list []impl.Data, alts []impl.Node) bool {
	t.Helper()
	p := withRoom(impl.Prog{Datas: list, Main: node(impl.NdCase, alts...)})
	kept := toldWithRoom(p)
	tree, ok := impl.Trees(p.Datas, p.Main.Kids)
	want := toldTree(tree)
	var lists, texts pieces
	addProg(&lists, &texts, p)
	addTree(&lists, &texts, tree)
	if lists.overlap() || texts.overlap() {
		t.Fatalf("%s: two lists or texts share memory", toldRows(patternsBy(alts)...))
	}
	spoilTree(tree)
	if toldWithRoom(p) != kept {
		t.Fatalf("%s was written into", kept)
	}
	if again, is := impl.Trees(p.Datas, p.Main.Kids); toldTree(again) != want || is != ok {
		t.Fatalf("asked again, the tree of %s is %s and %v", toldRows(patternsBy(alts)...), toldTree(again), is)
	}
	return ok
}

func TestTreesAreNewMemory(t *testing.T) {
	s := steps(118)
	list := datasOf(treeDatas)
	met := map[bool]int{}
	for i := range 3000 {
		alts := alternativesOf(s.randomRows(1+s.below(6), 1, i%4))
		met[holdTreeMemory(t, list, alts)]++
	}
	if met[true] < 300 || met[false] < 300 {
		t.Errorf("there are trees and not %v times", met)
	}
	// One ask is that of several trees here.
	for _, text := range []string{"", "_", "T 1 2 3; T _ 2 _; T _ _ 3; _", "T X _ 1; T _ X 1; T X X _; T _ _ 2", "C (S 1) (C x E); C (S _) (C N E); C _ (C N E)", "S (S (S (S 1))); S (S (S N)); S (S N); S N; N"} {
		if !holdTreeMemory(t, list, alternativesRead(text)) {
			t.Errorf("there is no tree of %s", text)
		}
	}
	// The same node stands in several alternatives.
	one := anAlt(conPat("C", numPat(1), conPat("S", anyPat())), aNum(0))
	if !holdTreeMemory(t, list, []impl.Node{one, one, anAlt(conPat("C", anyPat(), conPat("S", numPat(1))), aNum(0)), one}) {
		t.Error("there is no tree of what stands there several times")
	}
}

func TestWhatIsAtAPathIsNewMemory(t *testing.T) {
	s := steps(119)
	met := map[bool]int{}
	for i := range 4000 {
		v := s.randomValue(1 + i%6)
		if i%3 == 0 {
			s.turnValue(&v)
		}
		v = valueWithRoom(v)
		var path []int
		for left := s.below(4); left > 0; left-- {
			path = append(path, s.below(3)-s.below(8)/7)
		}
		path = roomBehind(path, 79)
		kept := toldValueWithRoom(v) + pathText(path[:cap(path)])
		got, ok := impl.At(v, path)
		want := toldValue(got)
		var lists, texts pieces
		addValue(&lists, &texts, v)
		addList(&lists, path)
		addValue(&lists, &texts, got)
		if lists.overlap() || texts.overlap() {
			t.Fatalf("At(%s, %v): two lists or texts share memory", toldValue(v), path)
		}
		spoilValue(got)
		if toldValueWithRoom(v)+pathText(path[:cap(path)]) != kept {
			t.Fatalf("%s is written into", kept)
		}
		if again, is := impl.At(v, path); toldValue(again) != want || is != ok {
			t.Fatalf("asked again, At(%s, %v) is %s and %v", toldValue(v), path, toldValue(again), is)
		}
		met[ok]++
	}
	if met[true] < 1000 || met[false] < 500 {
		t.Errorf("paths lead somewhere and nowhere %v times", met)
	}
}

// What stands twice in a value stands twice in what is told.
func TestWhatIsAtAPathSharesNothing(t *testing.T) {
	kids := []impl.Value{conValue("S", intValue(1)), conValue("E")}
	v := conValue("C", conValue("C", kids...), conValue("C", kids...))
	got, ok := impl.At(conValue("S", v), []int{0})
	var lists, texts pieces
	addValue(&lists, &texts, got)
	addList(&lists, kids)
	if !ok || lists.overlap() || toldValue(got) != toldValue(v) {
		t.Errorf("a value that is shared is told as %s", toldValue(got))
	}
}

func TestTreesOfCasesAreNotWrittenInto(t *testing.T) {
	s := steps(120)
	for i := range 5000 {
		tree := s.randomTree(i % 5)
		for left := s.below(3); left > 0; left-- {
			s.turnTree(&tree)
		}
		tree = treeWithRoom(tree)
		v := valueWithRoom(s.randomValue(1 + i%4))
		p := withRoom(impl.Prog{Datas: datasOf(valueDatas)})
		kept := toldTreeWithRoom(tree) + toldValueWithRoom(v) + toldWithRoom(p)
		leads, ok := impl.RunTree(tree, v), impl.TreeOk(p.Datas, tree)
		if toldTreeWithRoom(tree)+toldValueWithRoom(v)+toldWithRoom(p) != kept {
			t.Fatalf("%s is written into", kept)
		}
		if impl.RunTree(tree, v) != leads || impl.TreeOk(p.Datas, tree) != ok || leads != runTreeBy(tree, v) || ok != treeOkBy(p.Datas, tree) {
			t.Fatalf("asked again, %s is told otherwise", toldTree(tree))
		}
	}
	// Lists that several trees and values share are only read.
	kids := slices.Repeat([]impl.Tree{doneTree(1)}, 3)[:2]
	tree := impl.Tree{Op: impl.TrCon, S: "S", Kids: []impl.Tree{{Op: impl.TrNum, Kids: kids}, {Op: impl.TrNum, Kids: kids}}}
	kept := toldTreeWithRoom(tree)
	wantTreeOk(t, datasOf(valueDatas), tree, true)
	wantRun(t, tree, intValue(0), 1)
	if toldTreeWithRoom(tree) != kept {
		t.Error("a list that is shared is written into")
	}
}
