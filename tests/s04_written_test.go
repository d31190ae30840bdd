package tests

import (
	"math/big"
	"strings"

	"loop.example/g00323/impl"
)

// A second telling of what is written: by patterns with holes, each filled from the left.

// filled puts the texts into the holes of a pattern, which are marked by %.
func filled(pattern string, texts ...string) string {
	for _, text := range texts {
		ahead, behind, found := strings.Cut(pattern, "%")
		if !found {
			panic("no hole is left in " + pattern)
		}
		// Texts have no % in them, so that none is taken for a hole.
		pattern = ahead + text + behind
	}
	return pattern
}

// textPatterns are those of the ops that have all of their kids in one place each.
func textPatterns() map[int]string {
	return map[int]string{
		impl.NdFun: "(fun %s -> %)", impl.NdApp: "(% %)", impl.NdLet: "(let %s = % in %)", impl.NdRec: "(rec %s %t = % in %)", impl.NdAlt: "% -> %",
		impl.NdIf: "(if % then % else %)", impl.NdPut: "(put %)", impl.PtAny: "_",
		impl.NdAdd: "(% + %)", impl.NdSub: "(% - %)", impl.NdMul: "(% * %)", impl.NdLess: "(% < %)", impl.NdSame: "(% == %)",
	}
}

func listText(name string, kids []string) string {
	if len(kids) == 0 {
		return name
	}
	return "(" + name + " " + strings.Join(kids, " ") + ")"
}

func nodeTextBy(n impl.Node) string {
	var kids []string
	for _, kid := range n.Kids {
		kids = append(kids, nodeTextBy(kid))
	}
	switch n.Op {
	case impl.NdNum, impl.PtNum:
		return big.NewInt(int64(n.N)).String()
	case impl.NdVar, impl.PtVar:
		return n.S
	case impl.NdCon, impl.PtCon:
		return listText(n.S, kids)
	case impl.NdCase:
		return "(case " + kids[0] + " of { " + strings.Join(kids[1:], "; ") + " })"
	case impl.NdApp:
		if n.Kids[0].Op == impl.NdCon && !strings.HasPrefix(kids[0], "(") {
			kids[0] = "(" + kids[0] + ")"
		}
	}
	pattern := strings.ReplaceAll(strings.ReplaceAll(textPatterns()[n.Op], "%s", n.S), "%t", n.T)
	return filled(pattern, kids...)
}

func tyTextBy(t impl.Ty) string {
	var kids []string
	for _, kid := range t.Kids {
		kids = append(kids, tyTextBy(kid))
	}
	switch t.Op {
	case impl.TyInt:
		return "Int"
	case impl.TyVar:
		return letterBy(t.N)
	case impl.TyData:
		return listText(t.S, kids)
	}
	if t.Op != impl.TyFun || len(kids) != 2 {
		return "?"
	}
	return "(" + strings.Join(kids, " -> ") + ")"
}

func letterBy(n int) string {
	if n < 0 {
		return "?"
	}
	return "abcdefghijklmnopqrstuvwxyz"[n%26 : n%26+1]
}

func progTextBy(p impl.Prog) string {
	text := ""
	for _, d := range p.Datas {
		text += "data " + d.Name
		for i := range d.Vars {
			text += " " + letterBy(i)
		}
		for i, c := range d.Cons {
			text += []string{" = ", " | "}[min(i, 1)] + c.Name
			for _, a := range c.Args {
				text += " " + tyTextBy(a)
			}
		}
		text += ";\n"
	}
	return text + nodeTextBy(p.Main) + "\n"
}

// tidyBy asks Parse itself: what is tidy is what it tells of the text that a scribe makes of it. It is of programs that are short enough to be a source.
func tidyBy(p impl.Prog) (tidy bool) {
	// A scribe fails where kids or names are missing.
	defer func() {
		if recover() != nil {
			tidy = false
		}
	}()
	var w scribe
	w.prog(p)
	got, bad := impl.Parse(w.text())
	return bad == -1 && toldProg(got) == toldProg(p)
}

// A spot is one node, type, con or data of a program, as it may be turned into another one.
type spots struct {
	nodes []*impl.Node
	types []*impl.Ty
	cons  []*impl.Con
	datas []*impl.Data
}

func spotsOf(p *impl.Prog) *spots {
	var s spots
	for i := range p.Datas {
		d := &p.Datas[i]
		s.datas = append(s.datas, d)
		for j := range d.Cons {
			s.cons = append(s.cons, &d.Cons[j])
			for k := range d.Cons[j].Args {
				s.addType(&d.Cons[j].Args[k])
			}
		}
	}
	s.addNode(&p.Main)
	return &s
}

func (s *spots) addType(t *impl.Ty) {
	s.types = append(s.types, t)
	for i := range t.Kids {
		s.addType(&t.Kids[i])
	}
}

func (s *spots) addNode(n *impl.Node) {
	s.nodes = append(s.nodes, n)
	for i := range n.Kids {
		s.addNode(&n.Kids[i])
	}
}

func someText(s *steps) string {
	if s.below(3) == 0 {
		return s.pick(everyKeyword()...)
	}
	return s.pick("", "x", "C", "Int", "int", "abcdefgh", "abcdefghi", "Abcdefgh", "Abcdefghi", "1", "x1", "_", "x y", "C D", "(x)", " x", "x ", "\u00e9", "x\u00e9", "\xff", "x\x00")
}

func someNumber(s *steps) int {
	return []int{0, 1, 2, 25, 26, 27, -1, least, greatest, greatest + 1, 1 << 40}[s.below(11)]
}

// turned makes the program another one at one spot; it may stay tidy.
func (s *steps) turned(p *impl.Prog) {
	all := spotsOf(p)
	switch kind := s.below(8); {
	case kind < 1 && len(all.datas) > 0:
		s.turnData(all.datas[s.below(len(all.datas))])
	case kind < 2 && len(all.cons) > 0:
		all.cons[s.below(len(all.cons))].Name = someText(s)
	case kind < 4 && len(all.types) > 0:
		s.turnType(all.types[s.below(len(all.types))])
	default:
		s.turnNode(all.nodes[s.below(len(all.nodes))])
	}
}

func (s *steps) turnData(d *impl.Data) {
	switch s.below(4) {
	case 0:
		d.Name = someText(s)
	case 1:
		d.Cons = nil
	default:
		d.Vars = []int{-1, 0, 1, 2, 25, 26, 27, 28, -1 << 40}[s.below(9)]
	}
}

func (s *steps) turnType(t *impl.Ty) {
	switch s.below(6) {
	case 0:
		t.Op = s.below(7) - 1
	case 1:
		t.N = someNumber(s)
	case 2:
		t.S = someText(s)
	case 3:
		t.Kids = t.Kids[:len(t.Kids)/2]
	case 4:
		t.Kids = append(t.Kids, s.randomTy(1, 2))
	default:
		*t = s.randomTy(3, 3)
	}
}

func (s *steps) turnNode(n *impl.Node) {
	switch s.below(9) {
	case 0:
		n.Op = s.below(23) - 1
	case 1:
		n.N = someNumber(s)
	case 2:
		n.S = someText(s)
	case 3:
		n.T = someText(s)
	case 4:
		n.Kids = n.Kids[:len(n.Kids)/2]
	case 5:
		n.Kids = append(n.Kids, s.randomNode(2))
	case 6:
		n.Kids = append(n.Kids, anAlt(s.randomPattern(2), s.randomNode(2)))
	case 7:
		*n = s.randomPattern(3)
	default:
		*n = s.randomNode(3)
	}
}
