package tests

import (
	"slices"
	"strings"

	"loop.example/g00323/impl"
)

// The document's words on programs, line by line: what is told, and what it is made of. A word in pointed brackets is told by its lines, a word in capitals is a kind of token, all else are tokens.
const grammarLines = `
<program> <datas> <e> END
<datas>
<datas> <datas> <data>
<data> data CON <names> = <cons> ;
<names>
<names> <names> NAME
<cons> <con>
<cons> <cons> | <con>
<con> CON
<con> <con> <type>
<type> NAME
<type> CON
<type> Int
<type> ( <t> )
<t> <ahead>
<t> <ahead> -> <t>
<ahead> <type>
<ahead> <some> <type>
<some> CON
<some> <some> <type>
<e> fun NAME -> <e>
<e> let NAME = <e> in <e>
<e> rec NAME NAME = <e> in <e>
<e> case <e> of { <alternatives> }
<e> if <e> then <e> else <e>
<e> <comparison>
<alternatives> <alternative>
<alternatives> <alternatives> ; <alternative>
<alternative> <pattern> -> <e>
<comparison> <sum>
<comparison> <sum> < <sum>
<comparison> <sum> == <sum>
<sum> <product>
<sum> <sum> + <product>
<sum> <sum> - <product>
<product> <application>
<product> <product> * <application>
<application> put <atom>
<application> <made>
<application> <atoms>
<made> CON
<made> <made> <atom>
<atoms> <atom>
<atoms> <atoms> <atom>
<atom> NUM
<atom> NAME
<atom> CON
<atom> ( <e> )
<pattern> <shape>
<pattern> <patternatom>
<shape> CON
<shape> <shape> <patternatom>
<patternatom> _
<patternatom> NAME
<patternatom> NUM
<patternatom> CON
<patternatom> ( <pattern> )
`

// A rule tells head by body; an item is a rule of which done words are met, begun at token from.
type rule struct {
	head string
	body []string
}

type item struct{ rule, done, from int }

type itemSet struct {
	list []item
	has  map[item]bool
}

func (s *itemSet) add(i item) {
	if !s.has[i] {
		s.has[i] = true
		s.list = append(s.list, i)
	}
}

type grammarTable struct {
	rules  []rule
	byHead map[string][]int
	empty  map[string]bool
}

func readGrammar() grammarTable {
	g := grammarTable{byHead: map[string][]int{}, empty: map[string]bool{}}
	for _, line := range strings.Split(strings.TrimSpace(grammarLines), "\n") {
		words := strings.Fields(line)
		g.byHead[words[0]] = append(g.byHead[words[0]], len(g.rules))
		g.rules = append(g.rules, rule{words[0], words[1:]})
		if len(words) == 1 {
			g.empty[words[0]] = true
		}
	}
	return g
}

var wholeGrammar = readGrammar()

// wordOf is the grammar's word for a token.
func wordOf(token impl.Token) string {
	switch {
	case token.Kind == impl.TkEnd:
		return "END"
	case token.Kind == impl.TkNum:
		return "NUM"
	case token.Kind == impl.TkName && !slices.Contains(everyKeyword(), token.Text):
		return "NAME"
	case token.Kind == impl.TkCon && token.Text != "Int":
		return "CON"
	}
	return token.Text
}

func newItemSet() *itemSet { return &itemSet{has: map[item]bool{}} }

// grow adds to the last set all that may begin there, and all that is done there.
func (g grammarTable) grow(sets []*itemSet) {
	here := len(sets) - 1
	for n := 0; n < len(sets[here].list); n++ {
		i := sets[here].list[n]
		r := g.rules[i.rule]
		if i.done == len(r.body) {
			for m := 0; m < len(sets[i.from].list); m++ {
				about := sets[i.from].list[m]
				if body := g.rules[about.rule].body; about.done < len(body) && body[about.done] == r.head {
					sets[here].add(item{about.rule, about.done + 1, about.from})
				}
			}
			continue
		}
		for _, k := range g.byHead[r.body[i.done]] {
			sets[here].add(item{k, 0, here})
		}
		if g.empty[r.body[i.done]] {
			sets[here].add(item{i.rule, i.done + 1, i.from})
		}
	}
}

// firstMisfit goes through all ways at once to read the tokens, and tells the number of the first one behind which none is left; -1, if they fit.
func (g grammarTable) firstMisfit(tokens []impl.Token) int {
	sets := []*itemSet{newItemSet()}
	for _, k := range g.byHead["<program>"] {
		sets[0].add(item{k, 0, 0})
	}
	for n, token := range tokens {
		g.grow(sets)
		next := newItemSet()
		word := wordOf(token)
		for _, i := range sets[n].list {
			if body := g.rules[i.rule].body; i.done < len(body) && body[i.done] == word {
				next.add(item{i.rule, i.done + 1, i.from})
			}
		}
		if len(next.list) == 0 {
			return n
		}
		sets = append(sets, next)
	}
	return -1
}

// varsRefused looks at tokens that fit: whether a data has more than 26 vars, or a type of it names one that it has not.
func varsRefused(tokens []impl.Token) bool {
	for at := 0; tokens[at].Text == "data"; at++ {
		var vars []string
		for at += 2; tokens[at].Text != "="; at++ {
			vars = append(vars, tokens[at].Text)
		}
		if len(vars) > 26 {
			return true
		}
		for ; tokens[at].Text != ";"; at++ {
			if wordOf(tokens[at]) == "NAME" && !slices.Contains(vars, tokens[at].Text) {
				return true
			}
		}
	}
	return false
}

// placeBy is what Parse is to tell beside a program whose trees are not too deep.
func placeBy(src string) int {
	tokens, bad := tokensBy(src)
	if bad != -1 {
		return bad
	}
	if n := wholeGrammar.firstMisfit(tokens); n >= 0 {
		return tokens[n].At
	}
	if varsRefused(tokens) {
		return 0
	}
	return -1
}
