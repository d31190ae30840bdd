package tests

import (
	"slices"
	"strconv"
	"strings"

	"loop.example/g00323/impl"
)

// Values that patterns are held against, and a second telling of chapter 9.

const coverMost = 4000

func intValue(n int) impl.Value { return impl.Value{Kind: impl.VlInt, N: n} }

func conValue(name string, kids ...impl.Value) impl.Value {
	return impl.Value{Kind: impl.VlCon, S: name, Kids: kids}
}

// fitsBy is by the words of chapter 10; of what is no pattern it is false.
func fitsBy(p impl.Node, v impl.Value) bool {
	switch p.Op {
	case impl.PtAny, impl.PtVar:
		return true
	case impl.PtNum:
		return v.Kind == impl.VlInt && v.N == p.N
	case impl.PtCon:
		return v.Kind == impl.VlCon && v.S == p.S && allFit(p.Kids, v.Kids)
	}
	return false
}

func allFit(row []impl.Node, values []impl.Value) bool {
	for i := range min(len(row), len(values)) {
		if !fitsBy(row[i], values[i]) {
			return false
		}
	}
	return len(row) == len(values)
}

// Patterns that are made here ask for no number but those below numbersAsked.
const numbersAsked = 4

func argsOf(c impl.Con, ty impl.Ty) []impl.Ty {
	var args []impl.Ty
	for _, arg := range c.Args {
		args = append(args, standIn(arg, []int{0, 1}[:len(ty.Kids)], ty.Kids))
	}
	return args
}

// valuesOf are values of a type of which each pattern that is at most deep deep fits one, if it fits any: below that all are of the first cons. Vars are ints.
func valuesOf(datas []impl.Data, ty impl.Ty, deep int) []impl.Value {
	switch ty.Op {
	case impl.TyFun:
		return []impl.Value{{Kind: impl.VlFun}}
	case impl.TyData:
		return valuesOfData(datas, ty, deep)
	}
	list := []impl.Value{intValue(99)}
	for n := range numbersAsked {
		if deep > 0 {
			list = append(list, intValue(n))
		}
	}
	return list
}

func valuesOfData(datas []impl.Data, ty impl.Ty, deep int) []impl.Value {
	cons := datas[dataBy(datas, ty.S)].Cons
	if deep == 0 {
		cons = cons[:1]
	}
	var list []impl.Value
	for _, c := range cons {
		for kids := range tuplesOf(datas, argsOf(c, ty), max(deep-1, 0)) {
			list = append(list, conValue(c.Name, kids...))
		}
	}
	return list
}

// tuplesOf are values of these types, one behind the other, in all ways.
func tuplesOf(datas []impl.Data, types []impl.Ty, deep int) func(yield func([]impl.Value) bool) {
	columns := make([][]impl.Value, len(types))
	for i, ty := range types {
		columns[i] = valuesOf(datas, ty, deep)
	}
	return func(yield func([]impl.Value) bool) {
		var tell func(tuple []impl.Value) bool
		tell = func(tuple []impl.Value) bool {
			if len(tuple) == len(columns) {
				return yield(slices.Clone(tuple))
			}
			for _, v := range columns[len(tuple)] {
				if !tell(append(tuple, v)) {
					return false
				}
			}
			return true
		}
		tell(nil)
	}
}

// howManyOf is how many tuples there are, or most and some more.
func howManyOf(datas []impl.Data, types []impl.Ty, deep, most int) int {
	many := 1
	for _, ty := range types {
		one := 1 + numbersAsked
		if ty.Op == impl.TyFun || deep == 0 && ty.Op != impl.TyData {
			one = 1
		} else if ty.Op == impl.TyData {
			cons := datas[dataBy(datas, ty.S)].Cons
			if deep == 0 {
				cons = cons[:1]
			}
			one = 0
			for _, c := range cons {
				one += howManyOf(datas, argsOf(c, ty), max(deep-1, 0), most)
			}
		}
		if many *= one; many > most {
			return most + 1
		}
	}
	return many
}

// firstThatFits is the first row that values fit; as many as there are rows where there is none.
func firstThatFits(rows [][]impl.Node, values []impl.Value) int {
	for i, row := range rows {
		if allFit(row, values) {
			return i
		}
	}
	return len(rows)
}

func rowsOf(alts []impl.Node) [][]impl.Node {
	var rows [][]impl.Node
	for _, alt := range alts {
		rows = append(rows, []impl.Node{alt.Kids[0]})
	}
	return rows
}

// The second telling: rows are made anew at each step, and each pattern has a text for what it asks.

type coverer struct {
	datas []impl.Data
	steps int
}

const (
	asksAnything = "_"
	isNoPattern  = "?"
	asksOther    = "-"
)

func asked(p impl.Node) string {
	switch p.Op {
	case impl.PtAny, impl.PtVar:
		return asksAnything
	case impl.PtNum:
		return "number " + strconv.Itoa(p.N)
	case impl.PtCon:
		return conAsked(p.S, len(p.Kids))
	}
	return isNoPattern
}

func conAsked(name string, kids int) string { return "con " + name + " of " + strconv.Itoa(kids) }

// usefulBy tells how many steps there were, too, but no more than one above those that there may be.
func usefulBy(list []impl.Data, rows [][]impl.Node, row []impl.Node) (bool, int) {
	if slices.ContainsFunc(rows, func(r []impl.Node) bool { return len(r) != len(row) }) {
		return false, 0
	}
	c := coverer{datas: list}
	useful := c.some(rows, row)
	return useful, c.steps
}

func (c *coverer) some(rows [][]impl.Node, row []impl.Node) bool {
	if c.steps++; c.steps > coverMost {
		return true
	}
	if len(row) == 0 {
		return len(rows) == 0
	}
	text := asked(row[0])
	switch text {
	case isNoPattern:
		return false
	case asksAnything:
		return c.someOfAll(rows, row)
	}
	return c.some(narrowed(rows, text, row[0]), narrowed([][]impl.Node{row}, text, row[0])[0])
}

// someOfAll goes on with each con though one was found: what is found stays found.
func (c *coverer) someOfAll(rows [][]impl.Node, row []impl.Node) bool {
	cons := wholeData(c.datas, rows)
	if cons == nil {
		return c.some(narrowed(rows, asksOther, anyPat()), row[1:])
	}
	found := false
	for _, con := range cons {
		p := conPat(con.Name, slices.Repeat([]impl.Node{anyPat()}, len(con.Args))...)
		found = c.some(narrowed(rows, asked(p), p), narrowed([][]impl.Node{row}, asked(p), p)[0]) || found
	}
	return found
}

// wholeData are the cons of the first data that has just those with which rows begin.
func wholeData(datas []impl.Data, rows [][]impl.Node) []impl.Con {
	names := func(list []string) string {
		return strings.Join(slices.Compact(slices.Sorted(slices.Values(list))), "\n")
	}
	var there []string
	for _, r := range rows {
		if r[0].Op == impl.PtCon {
			there = append(there, r[0].S)
		}
	}
	for _, d := range datas {
		var own []string
		for _, con := range d.Cons {
			own = append(own, con.Name)
		}
		if len(there) > 0 && len(own) > 0 && names(own) == names(there) {
			return d.Cons
		}
	}
	return nil
}

// narrowed are the rows that ask for this or for anything, with kids in the place of what asks.
func narrowed(rows [][]impl.Node, text string, p impl.Node) [][]impl.Node {
	var list [][]impl.Node
	kids := 0
	if p.Op == impl.PtCon {
		kids = len(p.Kids)
	}
	for _, r := range rows {
		own := asked(r[0])
		switch {
		case own != asksAnything && own != text:
		case kids == 0:
			list = append(list, r[1:])
		case own == asksAnything:
			list = append(list, slices.Concat(slices.Repeat([]impl.Node{anyPat()}, kids), r[1:]))
		default:
			list = append(list, slices.Concat(r[0].Kids, r[1:]))
		}
	}
	return list
}

func missingBy(list []impl.Data, alts []impl.Node) bool {
	missing, _ := usefulBy(list, patternsBy(alts), []impl.Node{anyPat()})
	return missing
}

func idleBy(list []impl.Data, alts []impl.Node) int {
	rows := patternsBy(alts)
	for i := range rows {
		if useful, _ := usefulBy(list, rows[:i], rows[i]); !useful {
			return i
		}
	}
	return -1
}

// patternsBy has what is no pattern for an alternative that has none.
func patternsBy(alts []impl.Node) [][]impl.Node {
	var rows [][]impl.Node
	for _, alt := range alts {
		rows = append(rows, []impl.Node{append(slices.Clone(alt.Kids), impl.Node{})[0]})
	}
	return rows
}

func coveredBy(p impl.Prog) bool {
	if !impl.Tidy(p) {
		return false
	}
	for _, n := range spotsOf(&p).nodes {
		if n.Op == impl.NdCase && missingBy(p.Datas, n.Kids[1:]) {
			return false
		}
	}
	return true
}

func toldRows(rows ...[]impl.Node) string {
	var texts []string
	for _, row := range rows {
		text := "("
		for _, p := range row {
			text += " " + nodeTextOrTold(p)
		}
		texts = append(texts, text+" )")
	}
	return strings.Join(texts, ", ")
}

// nodeTextOrTold is short where a pattern is one.
func nodeTextOrTold(p impl.Node) string {
	if len(told(p)) > 2000 {
		return "a large pattern"
	}
	text := impl.Write(impl.Prog{Main: caseOfPattern(p)})
	if text == "" {
		return told(p)
	}
	return strings.TrimSuffix(strings.TrimPrefix(text, "(case 1 of { "), " -> 2 })\n")
}

// alternativesRead reads alternatives from the texts of their patterns, with a `;` between.
func alternativesRead(text string) []impl.Node {
	if text == "" {
		return nil
	}
	p, bad := impl.Parse("case 0 of { " + strings.ReplaceAll(text, ";", " -> 0;") + " -> 0 }")
	if bad != -1 {
		panic("no patterns: " + text)
	}
	return p.Main.Kids[1:]
}

func patternsRead(text string) []impl.Node {
	var list []impl.Node
	for _, alt := range alternativesRead(text) {
		list = append(list, alt.Kids[0])
	}
	return list
}

// rowsRead reads rows, with a `;` between; `.` is one without columns.
func rowsRead(text string) [][]impl.Node {
	var rows [][]impl.Node
	for row := range strings.SplitSeq(text, ";") {
		switch row = strings.TrimSpace(row); row {
		case "":
		case ".":
			rows = append(rows, nil)
		default:
			rows = append(rows, patternsRead("Row " + row)[0].Kids)
		}
	}
	return rows
}
