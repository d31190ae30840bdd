package tests

import (
	"slices"
	"strconv"
	"strings"
	"testing"

	"loop.example/g00323/impl"
)

// A second telling of chapter 11. It keeps no rows: it keeps what was asked on the way down, and looks at each alternative anew by that.

const treesMost = 300

func TestNumbersOfChapter11(t *testing.T) {
	for i, got := range []int{impl.TrDone, impl.TrFail, impl.TrCon, impl.TrNum} {
		if got != i+1 {
			t.Errorf("the op of number %d is %d", i+1, got)
		}
	}
	if impl.MaxTrees != treesMost {
		t.Errorf("MaxTrees is %d", impl.MaxTrees)
	}
}

func doneTree(n int) impl.Tree { return impl.Tree{Op: impl.TrDone, N: n} }

func failTree() impl.Tree { return impl.Tree{Op: impl.TrFail} }

func conTree(name string, path []int, held, failed impl.Tree) impl.Tree {
	return impl.Tree{Op: impl.TrCon, S: name, Path: path, Kids: []impl.Tree{held, failed}}
}

func numTree(n int, path []int, held, failed impl.Tree) impl.Tree {
	return impl.Tree{Op: impl.TrNum, N: n, Path: path, Kids: []impl.Tree{held, failed}}
}

func pathText(path []int) string {
	var texts []string
	for _, i := range path {
		texts = append(texts, strconv.Itoa(i))
	}
	return strings.Join(texts, ".")
}

// toldTree writes every field of a tree, so that two texts are one only where the trees are.
func toldTree(t impl.Tree) string {
	text := "{" + strconv.Itoa(t.Op) + " " + strconv.Itoa(t.N) + " " + pathText(t.Path) + " " + strconv.Quote(t.S)
	for _, kid := range t.Kids {
		text += " " + toldTree(kid)
	}
	return text + "}"
}

// treeText is short: the number of an alternative, `!`, or what is asked, `@`, where, and both kids. It trusts that the tree is right.
func treeText(t impl.Tree) string {
	head := t.S
	switch t.Op {
	case impl.TrDone:
		return strconv.Itoa(t.N)
	case impl.TrFail:
		return "!"
	case impl.TrNum:
		head = strconv.Itoa(t.N)
	}
	return "[" + head + "@" + pathText(t.Path) + " " + treeText(t.Kids[0]) + " " + treeText(t.Kids[1]) + "]"
}

func treesIn(t *impl.Tree) []*impl.Tree {
	list := []*impl.Tree{t}
	for i := range t.Kids {
		list = append(list, treesIn(&t.Kids[i])...)
	}
	return list
}

// A fact is what was asked at a path, and whether it held.
type fact struct {
	path  []int
	asked string
	held  bool
}

// An askAt is a pattern that is still to be asked for.
type askAt struct {
	path []int
	p    impl.Node
}

// stillAsked is what a pattern asks behind these facts; false where it can't fit any more.
func stillAsked(p impl.Node, path []int, facts []fact) ([]askAt, bool) {
	text := asked(p)
	if text == asksAnything {
		return nil, true
	}
	for _, f := range facts {
		switch same := f.asked == text; {
		case !slices.Equal(f.path, path):
		case f.held != same:
			return nil, false
		case f.held:
			return stillAskedOfKids(p, path, facts)
		}
	}
	return []askAt{{path, p}}, true
}

func stillAskedOfKids(p impl.Node, path []int, facts []fact) ([]askAt, bool) {
	if p.Op != impl.PtCon {
		return nil, true
	}
	var all []askAt
	for i, kid := range p.Kids {
		list, may := stillAsked(kid, slices.Concat(path, []int{i}), facts)
		if !may {
			return nil, false
		}
		all = append(all, list...)
	}
	return all, true
}

// A grower counts the trees that it makes, and goes on no further than one above those that there may be.
type grower struct {
	alts []impl.Node
	many int
}

func (g *grower) grow(facts []fact) impl.Tree {
	if g.many++; g.many > treesMost {
		return impl.Tree{}
	}
	for i, alt := range g.alts {
		list, may := stillAsked(alt.Kids[0], nil, facts)
		switch {
		case !may:
			continue
		case len(list) == 0:
			return doneTree(i)
		}
		first := list[0]
		held := g.grow(append(slices.Clone(facts), fact{first.path, asked(first.p), true}))
		failed := g.grow(append(slices.Clone(facts), fact{first.path, asked(first.p), false}))
		if first.p.Op == impl.PtCon {
			return conTree(first.p.S, first.path, held, failed)
		}
		return numTree(first.p.N, first.path, held, failed)
	}
	return failTree()
}

// rightPattern asks for each con of a pattern whether it is one and has its kids.
func rightPattern(list []impl.Data, p impl.Node) bool {
	switch p.Op {
	case impl.PtAny, impl.PtVar, impl.PtNum:
		return true
	case impl.PtCon:
		tag := tagBy(list, p.S)
		if tag < 0 {
			return false
		}
		at := seatsOf(list)[tag]
		return len(list[at.data].Cons[at.con].Args) == len(p.Kids) && !slices.ContainsFunc(p.Kids, func(kid impl.Node) bool { return !rightPattern(list, kid) })
	}
	return false
}

// treesBy tells how many trees there are, too, but no more than one above those that there may be; none where an alternative is not right.
func treesBy(list []impl.Data, alts []impl.Node) (impl.Tree, int) {
	for _, alt := range alts {
		if alt.Op != impl.NdAlt || len(alt.Kids) == 0 || !rightPattern(list, alt.Kids[0]) {
			return impl.Tree{}, 0
		}
	}
	g := grower{alts: alts}
	t := g.grow(nil)
	if g.many > treesMost {
		return impl.Tree{}, g.many
	}
	return t, g.many
}

// atBy goes from the last number of the path to the first one.
func atBy(v impl.Value, path []int) (impl.Value, bool) {
	if len(path) == 0 {
		return v, true
	}
	last := len(path) - 1
	about, ok := atBy(v, path[:last])
	if !ok || path[last] < 0 || path[last] >= len(about.Kids) {
		return impl.Value{}, false
	}
	return about.Kids[path[last]], true
}

func runTreeBy(t impl.Tree, v impl.Value) int {
	if t.Op == impl.TrDone {
		return t.N
	}
	part, there := atBy(v, t.Path)
	held := part.Kind == impl.VlInt && part.N == t.N
	if t.Op == impl.TrCon {
		held = part.Kind == impl.VlCon && part.S == t.S
	}
	asks := t.Op == impl.TrCon || t.Op == impl.TrNum
	switch {
	case asks && there && held && len(t.Kids) >= 1:
		return runTreeBy(t.Kids[0], v)
	case asks && there && !held && len(t.Kids) >= 2:
		return runTreeBy(t.Kids[1], v)
	}
	return -1
}

// treeOkBy makes each tree anew from what its op names, and holds it against what it was.
func treeOkBy(list []impl.Data, t impl.Tree) bool {
	all := treesIn(&t)
	for _, part := range all {
		anew, kids := impl.Tree{Op: part.Op}, 0
		switch part.Op {
		case impl.TrDone, impl.TrNum:
			anew.N = gone64(part.N)
		case impl.TrFail:
		case impl.TrCon:
			if tagBy(list, part.S) < 0 {
				return false
			}
			anew.S = part.S
		default:
			return false
		}
		if part.Op >= impl.TrCon {
			kids = 2
			for _, n := range part.Path[:min(len(part.Path), treeDeep)] {
				anew.Path = append(anew.Path, max(n, 0))
			}
		}
		alone := *part
		alone.Kids = nil
		if toldTree(anew) != toldTree(alone) || len(part.Kids) != kids {
			return false
		}
	}
	return len(all) <= treesMost
}

// firstByFits is the first alternative whose pattern fits, by Fits itself; -1 where none does.
func firstByFits(alts []impl.Node, v impl.Value) int {
	return slices.IndexFunc(alts, func(alt impl.Node) bool { return impl.Fits(alt.Kids[0], v) })
}

// askedTwice is what is asked though it is known on the way down: behind a con or a number that holds nothing is asked there any more, behind one that does not hold another one.
func askedTwice(t impl.Tree, facts []fact) string {
	if len(t.Kids) == 0 {
		return ""
	}
	now := fact{path: t.Path, asked: strconv.Itoa(t.Op) + " " + strconv.Itoa(t.N) + " " + t.S}
	for _, f := range facts {
		if slices.Equal(f.path, now.path) && (f.held || f.asked == now.asked) {
			return now.asked + " at " + pathText(now.path)
		}
	}
	for i, kid := range t.Kids {
		now.held = i == 0
		if text := askedTwice(kid, append(slices.Clone(facts), now)); text != "" {
			return text
		}
	}
	return ""
}

// holdTrees holds what Trees tells against the second telling, and what must be so of every tree.
func holdTrees(t *testing.T, list []impl.Data, alts []impl.Node) (impl.Tree, bool) {
	t.Helper()
	got, ok := impl.Trees(list, alts)
	want, many := treesBy(list, alts)
	if toldTree(got) != toldTree(want) || ok != (many > 0 && many <= treesMost) {
		t.Fatalf("%.600s: Trees is %.600s and %v, not %.600s of %d trees", toldRows(patternsBy(alts)...), toldTree(got), ok, toldTree(want), many)
	}
	if !ok {
		return got, false
	}
	if text := askedTwice(got, nil); text != "" {
		t.Fatalf("%.600s: %s is asked again", toldRows(patternsBy(alts)...), text)
	}
	if right := treeOkBy(list, got); impl.TreeOk(list, got) != right {
		t.Fatalf("%.600s: TreeOk is %v", toldRows(patternsBy(alts)...), !right)
	}
	return got, true
}
