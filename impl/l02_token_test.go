package impl

import (
	"strings"
	"testing"
)

func holdKeyword(t *testing.T, s string, want bool) {
	t.Helper()
	keywordsMade.Do(makeKeywords)
	_, inMap := keywords[s]
	if isKeyword(s) != want || inMap != want || Keyword(s) != want {
		t.Errorf("%.40q: isKeyword is %v, the map has it: %v, Keyword is %v; not %v", s, isKeyword(s), inMap, Keyword(s), want)
	}
}

// What the layers above ask, and the map that is made once, tell the same.
func TestKeywordsByFunctionAndByMap(t *testing.T) {
	all := []string{"data", "let", "rec", "in", "fun", "case", "of", "if", "then", "else", "put"}
	isOne := map[string]bool{}
	for _, s := range all {
		isOne[s] = true
	}
	for _, s := range all {
		holdKeyword(t, s, true)
		for _, near := range []string{s + "s", "x" + s, s[1:], s[:len(s)-1], s + s, s + " ", " " + s, s + "\x00", strings.ToUpper(s), strings.ToUpper(s[:1]) + s[1:]} {
			holdKeyword(t, near, isOne[near])
		}
	}
	for _, s := range []string{"", " ", "x", "xs", "f", "lets", "int", "Int", "Data", "func", "type", "letrec", "abcdefgh", "->", "==", "_", "(", "0", "12", "\xff", "\u017fet", strings.Repeat("let", 1000)} {
		holdKeyword(t, s, false)
	}
	if len(keywords) != len(all) {
		t.Errorf("the map has %d keywords, not %d", len(keywords), len(all))
	}
}

// Every text of up to four small letters.
func TestShortNamesByFunctionAndByMap(t *testing.T) {
	keywordsMade.Do(makeKeywords)
	var grow func(s string, left int)
	grow = func(s string, left int) {
		if _, inMap := keywords[s]; inMap != isKeyword(s) {
			t.Errorf("%q: the map has it: %v, and isKeyword is %v", s, inMap, isKeyword(s))
		}
		for c := byte('a'); left > 0 && c <= 'z'; c++ {
			grow(s+string(rune(c)), left-1)
		}
	}
	grow("", 4)
}
