package tests

import (
	"slices"
	"strconv"
	"strings"
	"testing"

	"loop.example/g00323/impl"
)

// A second telling of Eval: nothing is kept of what is bound about a node; what a name is bound to is put into the tree in its place.

// A thing is a value; of a function what it is itself called, if it is, and what its argument is.
type thing struct {
	kind, n        int
	name           string
	kids           []*thing
	self, argument string
	body           impl.Node
}

// thingOp is of a node that is in the place of a name: thing N.
const thingOp = 1000

type teller struct {
	datas       []impl.Data
	fuel, begun int
	out         []int
	things      []*thing
}

// An endOf is a code with which there is no value.
type endOf int

// evalBy tells how many nodes were begun, too.
func evalBy(p impl.Prog, fuel int) (r impl.Result, begun int) {
	if !impl.Tidy(p) || checkBy(p.Datas) != impl.DtDone {
		return impl.Result{Code: impl.EvStuck}, 0
	}
	k := teller{datas: p.Datas, fuel: min(fuel, fuelMost)}
	defer func() {
		switch why := recover().(type) {
		case nil:
		case endOf:
			r = impl.Result{Code: int(why), Out: k.out}
		default:
			panic(why)
		}
		begun = k.begun
	}()
	v := k.told(p.Main)
	if len(thingsIn(v, valueMost+1)) > valueMost {
		panic(endOf(impl.EvFuel))
	}
	return impl.Result{Value: valueOf(v), Out: k.out}, 0
}

// thingsIn are all things within one, itself too, or as many as are wanted.
func thingsIn(v *thing, most int) []*thing {
	list := []*thing{v}
	for at := 0; at < len(list) && len(list) < most; at++ {
		list = append(list, list[at].kids...)
	}
	return list
}

func valueOf(v *thing) impl.Value {
	value := impl.Value{Kind: v.kind, N: v.n, S: v.name}
	for _, kid := range v.kids {
		value.Kids = append(value.Kids, valueOf(kid))
	}
	return value
}

func holds(is bool) {
	if !is {
		panic(endOf(impl.EvStuck))
	}
}

func (k *teller) told(n impl.Node) *thing {
	if k.begun++; k.begun > k.fuel {
		panic(endOf(impl.EvFuel))
	}
	switch n.Op {
	case thingOp:
		return k.things[n.N]
	case impl.NdNum:
		return &thing{kind: impl.VlInt, n: n.N}
	case impl.NdFun:
		return &thing{kind: impl.VlFun, argument: n.S, body: n.Kids[0]}
	case impl.NdApp:
		return k.appliedTo(k.told(n.Kids[0]), k.told(n.Kids[1]))
	case impl.NdLet:
		return k.told(k.put(n.Kids[1], n.S, k.told(n.Kids[0])))
	case impl.NdRec:
		return k.told(k.put(n.Kids[1], n.S, &thing{kind: impl.VlFun, self: n.S, argument: n.T, body: n.Kids[0]}))
	case impl.NdCase:
		return k.toldCase(k.told(n.Kids[0]), n.Kids[1:])
	case impl.NdIf:
		asked := k.told(n.Kids[0])
		holds(asked.kind == impl.VlInt)
		if asked.n == 0 {
			return k.told(n.Kids[2])
		}
		return k.told(n.Kids[1])
	case impl.NdCon:
		v := &thing{kind: impl.VlCon, name: n.S}
		for _, kid := range n.Kids {
			v.kids = append(v.kids, k.told(kid))
		}
		tag := tagBy(k.datas, n.S)
		holds(tag >= 0)
		at := seatsOf(k.datas)[tag]
		holds(len(k.datas[at.data].Cons[at.con].Args) == len(v.kids))
		return v
	case impl.NdPut:
		v := k.told(n.Kids[0])
		holds(v.kind == impl.VlInt)
		k.out = append(k.out, v.n)
		return v
	case impl.NdVar:
		holds(false)
	}
	a := k.told(n.Kids[0])
	holds(a.kind == impl.VlInt)
	b := k.told(n.Kids[1])
	holds(b.kind == impl.VlInt)
	return &thing{kind: impl.VlInt, n: reckonedBy(n.Op, a.n, b.n)}
}

func reckonedBy(op, a, b int) int {
	switch {
	case op == impl.NdAdd:
		return gone64(a + b)
	case op == impl.NdSub:
		return gone64(a - b)
	case op == impl.NdMul:
		return gone64(a * b)
	case op == impl.NdLess && a < b, op == impl.NdSame && a == b:
		return 1
	}
	return 0
}

// appliedTo puts the argument first: where both names are one, none is left for the function itself.
func (k *teller) appliedTo(f, argument *thing) *thing {
	holds(f.kind == impl.VlFun)
	return k.told(k.put(k.put(f.body, f.argument, argument), f.self, f))
}

func (k *teller) toldCase(v *thing, alts []impl.Node) *thing {
	for _, alt := range alts {
		var bound []boundThing
		if !matches(alt.Kids[0], v, &bound) {
			continue
		}
		body := alt.Kids[1]
		for _, b := range slices.Backward(bound) {
			body = k.put(body, b.name, b.value)
		}
		return k.told(body)
	}
	panic(endOf(impl.EvStuck))
}

type boundThing struct {
	name  string
	value *thing
}

func matches(p impl.Node, v *thing, bound *[]boundThing) bool {
	switch p.Op {
	case impl.PtVar:
		*bound = append(*bound, boundThing{p.S, v})
	case impl.PtNum:
		return v.kind == impl.VlInt && v.n == p.N
	case impl.PtCon:
		if v.kind != impl.VlCon || v.name != p.S || len(v.kids) != len(p.Kids) {
			return false
		}
		for i, kid := range p.Kids {
			if !matches(kid, v.kids[i], bound) {
				return false
			}
		}
	}
	return true
}

// put is the tree with a thing in the place of a name, wherever that is not bound anew.
func (k *teller) put(n impl.Node, name string, v *thing) impl.Node {
	k.things = append(k.things, v)
	return putIn(n, name, len(k.things)-1)
}

func putIn(n impl.Node, name string, at int) impl.Node {
	if n.Op == impl.NdVar && n.S == name {
		return impl.Node{Op: thingOp, N: at}
	}
	kids := slices.Clone(n.Kids)
	for i, kid := range kids {
		if !bindsIn(n, i, name) {
			kids[i] = putIn(kid, name, at)
		}
	}
	n.Kids = kids
	return n
}

// bindsIn tells whether a node binds a name in its kid i.
func bindsIn(n impl.Node, i int, name string) bool {
	switch n.Op {
	case impl.NdFun:
		return n.S == name
	case impl.NdLet:
		return i == 1 && n.S == name
	case impl.NdRec:
		return n.S == name || i == 0 && n.T == name
	case impl.NdAlt:
		return i == 1 && bindsSomewhere(n.Kids[0], name)
	}
	return false
}

func bindsSomewhere(p impl.Node, name string) bool {
	return p.Op == impl.PtVar && p.S == name || slices.ContainsFunc(p.Kids, func(kid impl.Node) bool { return bindsSomewhere(kid, name) })
}

// toldResult is short: how it ended, its value, and what was told.
func toldResult(r impl.Result) string {
	words := []string{strconv.Itoa(r.Code)}
	if r.Code >= impl.EvDone && r.Code <= impl.EvStuck {
		words[0] = []string{"done", "fuel", "stuck"}[r.Code]
	}
	if text := toldValue(r.Value); text != toldValue(impl.Value{}) {
		words = append(words, text)
	}
	for _, n := range r.Out {
		words = append(words, strconv.Itoa(n))
	}
	return strings.Join(words, " ")
}

// holdEval holds the answer against the second telling, and tells how many nodes that began.
func holdEval(t *testing.T, p impl.Prog, fuel int) (impl.Result, int) {
	t.Helper()
	got := impl.Eval(p, fuel)
	want, begun := evalBy(p, fuel)
	if toldResult(got) != toldResult(want) {
		t.Fatalf("Eval(%s, %d) is %.300s, not %.300s", short(toldProg(p)), fuel, toldResult(got), toldResult(want))
	}
	return got, begun
}

// holdFuel holds that with less fuel than is begun there is none left, that what was told till then is a beginning, and that with more it is as it was. It tells what it is with all fuel.
func holdFuel(t *testing.T, p impl.Prog, fuels ...int) impl.Result {
	t.Helper()
	whole, begun := holdEval(t, p, fuelMost)
	last := impl.Result{}
	slices.Sort(fuels)
	for _, fuel := range fuels {
		r, _ := holdEval(t, p, fuel)
		switch {
		case fuel >= begun && toldResult(r) != toldResult(whole):
			t.Fatalf("Eval(%s, %d) is %s, and with more fuel %s", short(toldProg(p)), fuel, toldResult(r), toldResult(whole))
		case fuel < begun && (r.Code != impl.EvFuel || toldValue(r.Value) != toldValue(impl.Value{})):
			t.Fatalf("Eval(%s, %d) is %s, and %d nodes are begun", short(toldProg(p)), fuel, toldResult(r), begun)
		case !beginsWith(whole.Out, r.Out) || !beginsWith(r.Out, last.Out):
			t.Fatalf("Eval(%s, %d) tells %v, with less fuel %v, and with all %v", short(toldProg(p)), fuel, r.Out, last.Out, whole.Out)
		}
		last = r
	}
	return whole
}

func beginsWith(list, beginning []int) bool {
	return len(beginning) <= len(list) && slices.Equal(list[:len(beginning)], beginning)
}

// fuelsUpTo are all from below none on.
func fuelsUpTo(most int) []int {
	var list []int
	for fuel := -1; fuel <= most; fuel++ {
		list = append(list, fuel)
	}
	return list
}
