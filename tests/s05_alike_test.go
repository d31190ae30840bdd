package tests

import (
	"slices"
	"strconv"
	"strings"

	"loop.example/g00323/impl"
)

// A second telling of chapter 5. A right type is a list of words, each ahead of its kids; two are made alike at the first word that differs.

const tyMost = 200

type wordBind struct {
	name  string
	words []string
}

func varWord(n int) string { return "v" + strconv.Itoa(n) }

func wordsOf(t impl.Ty) []string {
	var words []string
	switch t.Op {
	case impl.TyInt:
		words = []string{"i"}
	case impl.TyVar:
		words = []string{varWord(t.N)}
	case impl.TyFun:
		words = []string{"f"}
	default:
		words = []string{"d" + strconv.Itoa(len(t.Kids)) + " " + t.S}
	}
	for _, kid := range t.Kids {
		words = append(words, wordsOf(kid)...)
	}
	return words
}

func kidsOfWord(word string) int {
	switch word[0] {
	case 'f':
		return 2
	case 'd':
		many, _ := strconv.Atoi(word[1:strings.Index(word, " ")])
		return many
	}
	return 0
}

// firstOf is the first whole type of the words.
func firstOf(words []string) []string {
	at := 0
	for open := 1; open > 0; at++ {
		open += kidsOfWord(words[at]) - 1
	}
	return words[:at:at]
}

func putFor(name string, stands, words []string) []string {
	var list []string
	for _, w := range words {
		if w == name {
			list = append(list, stands...)
		} else {
			list = append(list, w)
		}
	}
	return list
}

func wordBindsOf(s []impl.Bind) []wordBind {
	var list []wordBind
	for _, b := range s {
		list = append(list, wordBind{varWord(b.N), wordsOf(b.Ty)})
	}
	return list
}

// unifyBy is of a substitution and types that are right.
func unifyBy(s []impl.Bind, a, b impl.Ty) ([]wordBind, bool) {
	all := wordBindsOf(s)
	left, right := wordsOf(a), wordsOf(b)
	for _, bound := range all {
		left, right = putFor(bound.name, bound.words, left), putFor(bound.name, bound.words, right)
	}
	for len(left) > 0 {
		l, r := firstOf(left), firstOf(right) // all that was found stands in them
		if len(l) > tyMost || len(r) > tyMost {
			return nil, false
		}
		if l[0] == r[0] {
			left, right = left[1:], right[1:]
			continue
		}
		if l[0][0] != 'v' {
			l, r = r, l
		}
		if l[0][0] != 'v' || slices.Contains(r, l[0]) {
			return nil, false
		}
		left, right = putFor(l[0], r, left)[len(r):], putFor(l[0], r, right)[len(r):]
		for i := range all {
			all[i].words = putFor(l[0], r, all[i].words)
			if len(all[i].words) > tyMost {
				return nil, false
			}
		}
		all = append(all, wordBind{l[0], r})
	}
	return all, true
}

func sizeBy(t impl.Ty) int {
	size := 1
	for _, kid := range t.Kids {
		size += sizeBy(kid)
	}
	return size
}

// madeAnew is a right type of what t names; it is t only where that is all.
func madeAnew(t impl.Ty) impl.Ty {
	var kids []impl.Ty
	for _, kid := range t.Kids {
		kids = append(kids, madeAnew(kid))
	}
	switch {
	case t.Op == impl.TyVar:
		return varTy(max(t.N, 0))
	case t.Op == impl.TyFun && len(kids) == 2:
		return funTy(kids[0], kids[1])
	case t.Op == impl.TyData && t.S != "":
		return dataTy(t.S, kids...)
	}
	return intTy()
}

func tyOkBy(t impl.Ty) bool { return toldTy(t) == toldTy(madeAnew(t)) && sizeBy(t) <= tyMost }

func subOkBy(s []impl.Bind) bool {
	all := wordBindsOf(s)
	for i, b := range s {
		if b.N < 0 || !tyOkBy(b.Ty) {
			return false
		}
		for j, other := range all {
			if i != j && all[i].name == other.name || slices.Contains(other.words, all[i].name) {
				return false
			}
		}
	}
	return true
}

func applyBy(s []impl.Bind, t impl.Ty) impl.Ty {
	at := slices.IndexFunc(s, func(b impl.Bind) bool { return b.N == t.N })
	if t.Op == impl.TyVar && at >= 0 {
		return s[at].Ty
	}
	made := impl.Ty{Op: t.Op, N: t.N, S: t.S}
	for _, kid := range t.Kids {
		made.Kids = append(made.Kids, applyBy(s, kid))
	}
	return made
}

func freeVarsBy(t impl.Ty) []int {
	var list []int
	if t.Op == impl.TyVar {
		list = append(list, t.N)
	}
	for _, kid := range t.Kids {
		list = append(list, freeVarsBy(kid)...)
	}
	slices.Sort(list)
	return slices.Compact(list)
}

// tyOf reads a type from a text as a data has it; a is var 0, z is var 25.
func tyOf(text string) impl.Ty {
	p, bad := impl.Parse("data Q a b c d e f g h i j k l m n o p q r s t u v w x y z = C (" + text + "); 1")
	if bad != -1 {
		panic("no type: " + text)
	}
	return p.Datas[0].Cons[0].Args[0]
}

// bindsOf reads Binds from a text: "a = Int; b = c -> Int".
func bindsOf(text string) []impl.Bind {
	var list []impl.Bind
	if text == "" {
		return list
	}
	for part := range strings.SplitSeq(text, ";") {
		name, stands, _ := strings.Cut(part, "=")
		list = append(list, impl.Bind{N: tyOf(name).N, Ty: tyOf(stands)})
	}
	return list
}

func toldBinds(s []impl.Bind) string {
	var parts []string
	for _, b := range s {
		parts = append(parts, strconv.Itoa(b.N)+" = "+toldTy(b.Ty))
	}
	return strings.Join(parts, "; ")
}

func toldWordBinds(s []wordBind) string {
	var parts []string
	for _, b := range s {
		parts = append(parts, b.name+" = "+strings.Join(b.words, " "))
	}
	return strings.Join(parts, "; ")
}

// nested is a type of that size: a chain of datas about t.
func nested(size int, t impl.Ty) impl.Ty {
	for left := size - sizeBy(t); left > 0; left-- {
		t = dataTy("L", t)
	}
	return t
}

// flat is a type of that size: a data with kids that are t.
func flat(size int, t impl.Ty) impl.Ty {
	list := dataTy("W")
	for range size - 1 {
		list.Kids = append(list.Kids, t)
	}
	return list
}

// aslant is a type of that size, which is odd: a chain of functions to the left or to the right.
func aslant(size int, toLeft bool, t impl.Ty) impl.Ty {
	chain := t
	for range (size - 1) / 2 {
		if toLeft {
			chain = funTy(chain, t)
		} else {
			chain = funTy(t, chain)
		}
	}
	return chain
}

// A lifter makes types of which one substitution makes what they were: parts of them become vars, each for one part.
type lifter struct {
	*steps
	stands []impl.Bind
	told   []string
	from   int
}

func (l *lifter) lifted(t impl.Ty) impl.Ty {
	if l.below(4) == 0 {
		return varTy(l.varFor(t))
	}
	made := impl.Ty{Op: t.Op, N: t.N, S: t.S}
	for _, kid := range t.Kids {
		made.Kids = append(made.Kids, l.lifted(kid))
	}
	return made
}

// varFor is a var that stands for t already, where there is one and it is taken, or a new one; the numbers go up and down.
func (l *lifter) varFor(t impl.Ty) int {
	text := toldTy(t)
	var fit []int
	for i, told := range l.told {
		if told == text {
			fit = append(fit, l.stands[i].N)
		}
	}
	if len(fit) > 0 && l.below(3) > 0 {
		return fit[l.below(len(fit))]
	}
	n := l.from + len(l.stands)*37%101 + len(l.stands)/101*101
	l.stands, l.told = append(l.stands, impl.Bind{N: n, Ty: t}), append(l.told, text)
	return n
}

// smallTys are all types of at most that size, of Int, these vars, functions and a data with one kid.
func smallTys(size int, vars ...int) []impl.Ty {
	bySize := make([][]impl.Ty, size+1)
	bySize[1] = []impl.Ty{intTy()}
	for _, n := range vars {
		bySize[1] = append(bySize[1], varTy(n))
	}
	all := slices.Clone(bySize[1])
	for now := 2; now <= size; now++ {
		for _, kid := range bySize[now-1] {
			bySize[now] = append(bySize[now], dataTy("L", kid))
		}
		for first := 1; first < now-1; first++ {
			for _, a := range bySize[first] {
				for _, b := range bySize[now-1-first] {
					bySize[now] = append(bySize[now], funTy(a, b))
				}
			}
		}
		all = append(all, bySize[now]...)
	}
	return all
}
