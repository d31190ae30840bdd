package impl

import (
	"math"
	"slices"
	"strings"
	"testing"
)

func mainOf(src string) Node {
	p, bad := Parse(src)
	if bad != -1 {
		panic("no program: " + src)
	}
	return p.Main
}

// A function within functions asks the program, storey by storey, and counts its own nodes alone.
func TestFunctionsAtWorkAskThoseAboutThem(t *testing.T) {
	p, _ := Parse("data A = X | Y; case X of { Y -> 1 }")
	w := programAtWork{datas: p.Datas, trees: map[nodesAt]Tree{}}
	outer := functionAtWork{atWork: &w}
	inner := functionAtWork{atWork: &functionAtWork{atWork: &outer}}
	if !w.plant(p.Main) || inner.tag("Y") != 1 || inner.tag("Z") != -1 || inner.tree(p.Main.Kids).S != "Y" {
		t.Error("a function within does not tell what the program has")
	}
	for want := range 3 {
		if got := []atWork{&inner, &outer, &w}[want].begin(); got != want {
			t.Errorf("block %d begins as %d", want, got)
		}
	}
	inner.end(1, Block{Free: 7})
	if len(w.blocks) != 3 || w.blocks[1].Free != 7 || w.blocks[0].Free != 0 || w.blocks[2].Free != 0 {
		t.Errorf("the blocks are %v", w.blocks)
	}
	for range MaxIr {
		inner.ir(IrNum, 1)
	}
	if inner.nodes != MaxIr || outer.nodes != 0 || outer.refused() {
		t.Errorf("%d and %d nodes are counted", inner.nodes, outer.nodes)
	}
	inner.ir(IrNum, 1)
	if !inner.refused() || !outer.refused() || !w.over {
		t.Error("a node too many is not refused everywhere")
	}
}

func TestBlocksThatBegin(t *testing.T) {
	var w programAtWork
	for want := range MaxBlocks {
		if got := w.begin(); got != want || w.refused() {
			t.Fatalf("block %d begins as %d", want, got)
		}
	}
	if w.begin(); !w.refused() {
		t.Error("a block too many is not refused")
	}
}

// Behind what is refused nothing is made.
func TestNothingIsMadeBehindWhatIsRefused(t *testing.T) {
	w := programAtWork{over: true}
	f := functionAtWork{atWork: &w}
	for _, src := range []string{"1", "x", "fun x -> x", "let x = 1 in x", "rec f x = x in f", "case 1 of { x -> x }", "C 1", "1 + 2"} {
		if got := f.expression(mainOf(src), standpoint{locals: 1}); got.Op != 0 || len(got.Kids) != 0 || f.nodes != 0 || len(w.blocks) != 0 {
			t.Errorf("%s becomes %v", src, got)
		}
	}
}

func TestNamesThatAreFree(t *testing.T) {
	for src, want := range map[string]string{"1": "", "x": "x", "y": "y", "x + y + x": "x y", "y x y z": "y x z", "fun x -> x y": "y", "(fun x -> x) x": "x", "let x = x in x": "x", "let x = y in x": "y", "let x = 1 in x + y": "y", "rec f x = f x y in f x": "y x", "rec f x = x in f": "", "rec f f = f in g": "g", "(rec f x = 1 in 2) + f + x": "f x",
		"case x of { x -> x }": "x", "case y of { C x (D _ z) -> x z w; C a b -> x }": "y w x", "case 1 of { x -> y; y -> x; _ -> z }": "y x z", "fun x -> fun y -> fun z -> T x y z w": "w", "let a = b in let c = d in a c e": "b d e", "if c then b else a": "c b a", "put (q r)": "q r"} {
		if got := strings.Join(freeIn(mainOf(src), nil, nil), " "); got != want {
			t.Errorf("free in %s are %q, not %q", src, got, want)
		}
	}
	var about *binding
	about = about.with("x", place{}).with("", place{})
	if got := freeIn(mainOf("x + y + z"), about, []string{"z", "q"}); !slices.Equal(got, []string{"z", "q", "y"}) {
		t.Errorf("behind those that were met stand %v", got)
	}
}

// The innermost name counts; what is bound within leaves what was bound about it as it is.
func TestPlacesOfNames(t *testing.T) {
	var about *binding
	about = about.with("x", place{op: IrFree, n: 2}).with("f", place{op: IrSelf})
	p := mainOf("case 1 of { C x (D y _ z) w -> 1 }").Kids[1].Kids[0]
	within := about.withPattern(p, place{op: IrLocal, n: 4})
	for name, want := range map[string][]int{"x": {0}, "y": {1, 0}, "z": {1, 2}, "w": {2}} {
		if got := within.place(name); got.op != IrLocal || got.n != 4 || !slices.Equal(got.path, want) {
			t.Errorf("%s is at %v", name, got)
		}
	}
	if got := within.place("f"); got.op != IrSelf || within.find("q") != nil || about.place("x").op != IrFree || about.find("y") != nil {
		t.Errorf("f is at %v, x at %v", got, about.place("x"))
	}
	local, next := standpoint{within, 5}.withLocal()
	if local.op != IrLocal || local.n != 5 || len(local.path) != 0 || next.locals != 6 || next.names != within {
		t.Errorf("the next local is %v", local)
	}
}

func TestCountsThatWouldBeTooGreat(t *testing.T) {
	for _, c := range []struct{ size, kids, want int }{{0, 0, 1}, {3, 4, 8}, {math.MaxInt - 1, 0, math.MaxInt}, {math.MaxInt - 2, 0, math.MaxInt - 1}, {math.MaxInt - 2, 1, math.MaxInt}, {math.MaxInt - 2, 2, math.MaxInt}, {math.MaxInt, 0, math.MaxInt}, {0, math.MaxInt, math.MaxInt}, {0, math.MaxInt - 1, math.MaxInt}, {1, math.MaxInt - 1, math.MaxInt}, {math.MaxInt, math.MaxInt, math.MaxInt}} {
		got := irCount{size: c.size}
		if got.count(c.kids); got.size != c.want || got.next != 1 {
			t.Errorf("%d and a node with kids of %d are %d", c.size, c.kids, got.size)
		}
	}
}
