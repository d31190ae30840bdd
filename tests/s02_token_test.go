package tests

import (
	"math/big"
	"regexp"
	"slices"
	"strings"
	"sync"
	"testing"
	"unsafe"

	"loop.example/g00323/impl"
)

// The limits and signs are written out, as the document has them, and not taken from the program.
const sourceBytes = 3000

func everySign() []string {
	return []string{"->", "==", "(", ")", "{", "}", ";", "=", "|", "+", "-", "*", "<", "_"}
}

func everyKeyword() []string {
	return []string{"data", "let", "rec", "in", "fun", "case", "of", "if", "then", "else", "put"}
}

func name(text string, at int) impl.Token {
	return impl.Token{Kind: impl.TkName, Text: text, At: at}
}

func con(text string, at int) impl.Token {
	return impl.Token{Kind: impl.TkCon, Text: text, At: at}
}

func num(text string, n, at int) impl.Token {
	return impl.Token{Kind: impl.TkNum, Text: text, N: n, At: at}
}

func sign(text string, at int) impl.Token {
	return impl.Token{Kind: impl.TkSign, Text: text, At: at}
}

func end(at int) impl.Token { return impl.Token{Kind: impl.TkEnd, At: at} }

func short(src string) string {
	if len(src) > 60 {
		return src[:60] + ".."
	}
	return src
}

func wantTokens(t *testing.T, src string, want ...impl.Token) {
	t.Helper()
	got, bad := impl.Tokens(src)
	if bad != -1 || !slices.Equal(got, want) {
		t.Errorf("Tokens(%q) is %v and %d, not %v", short(src), got, bad, want)
	}
}

func wantNone(t *testing.T, src string, place int) {
	t.Helper()
	if got, bad := impl.Tokens(src); bad != place || len(got) != 0 {
		t.Errorf("Tokens(%q), %d bytes, is %d tokens and %d, not nothing and %d", short(src), len(src), len(got), bad, place)
	}
}

// Kinds are told by their numbers, which stand in the document.
func TestTokenKinds(t *testing.T) {
	if impl.TkEnd != 0 || impl.TkName != 1 || impl.TkCon != 2 || impl.TkNum != 3 || impl.TkSign != 4 || impl.MaxSource != sourceBytes {
		t.Error("a constant is not as the document has it")
	}
}

func TestTokensOfOrdinaryTexts(t *testing.T) {
	wantTokens(t, "x", name("x", 0), end(1))
	wantTokens(t, "X", con("X", 0), end(1))
	wantTokens(t, "z Z a A", name("z", 0), con("Z", 2), name("a", 4), con("A", 6), end(7))
	wantTokens(t, "0", num("0", 0, 0), end(1))
	wantTokens(t, "let x = 10 in x + 907",
		name("let", 0), name("x", 4), sign("=", 6), num("10", 10, 8), name("in", 11), name("x", 14), sign("+", 16), num("907", 907, 18), end(21))
	wantTokens(t, "data List a = Nil | Cons a (List a);\ncase Nil of { Nil -> 0; Cons x _ -> x }\n",
		name("data", 0), con("List", 5), name("a", 10), sign("=", 12), con("Nil", 14), sign("|", 18), con("Cons", 20), name("a", 25),
		sign("(", 27), con("List", 28), name("a", 33), sign(")", 34), sign(";", 35),
		name("case", 37), con("Nil", 42), name("of", 46), sign("{", 49), con("Nil", 51), sign("->", 55), num("0", 0, 58), sign(";", 59),
		con("Cons", 61), name("x", 66), sign("_", 68), sign("->", 70), name("x", 73), sign("}", 75), end(77))
	wantTokens(t, "camelCas", name("camelCas", 0), end(8))
}

func TestTokensOfNothing(t *testing.T) {
	wantTokens(t, "", end(0))
	wantTokens(t, " ", end(1))
	wantTokens(t, "\n", end(1))
	wantTokens(t, " \n \n\n  ", end(7))
}

func TestWhatStandsBetween(t *testing.T) {
	wantTokens(t, "  a\n\nB \n 7\n(  ", name("a", 2), con("B", 5), num("7", 7, 9), sign("(", 11), end(14))
	wantTokens(t, "a b", name("a", 0), name("b", 2), end(3))
	wantTokens(t, "a\nb", name("a", 0), name("b", 2), end(3))
	wantTokens(t, "1 2", num("1", 1, 0), num("2", 2, 2), end(3))
	wantTokens(t, "0 0", num("0", 0, 0), num("0", 0, 2), end(3))
	wantTokens(t, "0\n5", num("0", 0, 0), num("5", 5, 2), end(3))
	wantTokens(t, "abcdefgh i", name("abcdefgh", 0), name("i", 9), end(10))
}

// What is of another kind ends a run, with nothing between.
func TestRunsSideBySide(t *testing.T) {
	wantTokens(t, "a1", name("a", 0), num("1", 1, 1), end(2))
	wantTokens(t, "1a", num("1", 1, 0), name("a", 1), end(2))
	wantTokens(t, "12Ab34", num("12", 12, 0), con("Ab", 2), num("34", 34, 4), end(6))
	wantTokens(t, "0x0", num("0", 0, 0), name("x", 1), num("0", 0, 2), end(3))
	wantTokens(t, "a_b", name("a", 0), sign("_", 1), name("b", 2), end(3))
	wantTokens(t, "_1_", sign("_", 0), num("1", 1, 1), sign("_", 2), end(3))
	wantTokens(t, "f(x)+-1", name("f", 0), sign("(", 1), name("x", 2), sign(")", 3), sign("+", 4), sign("-", 5), num("1", 1, 6), end(7))
	wantTokens(t, "abcdefgh1Abcdefgh", name("abcdefgh", 0), num("1", 1, 8), con("Abcdefgh", 9), end(17))
}

func TestNamesAndConsOfEightLettersAndOfNine(t *testing.T) {
	wantTokens(t, "abcdefgh", name("abcdefgh", 0), end(8))
	wantTokens(t, "aBCDEFGH", name("aBCDEFGH", 0), end(8))
	wantTokens(t, "Abcdefgh", con("Abcdefgh", 0), end(8))
	wantTokens(t, "ABCDEFGH", con("ABCDEFGH", 0), end(8))
	wantTokens(t, "xyzXYZaz", name("xyzXYZaz", 0), end(8))
	for _, run := range []string{"abcdefghi", "Abcdefghi", "aBCDEFGHI", "ABCDEFGHI", "abcdefghijklmnop", "abcdefghABCDEFGH", strings.Repeat("x", 999), strings.Repeat("X", sourceBytes)} {
		wantNone(t, run, 0)
		if len(run) < 1000 {
			wantNone(t, "a "+run, 2)
			wantNone(t, "12"+run+" 05", 2)
			wantNone(t, "=="+run+"#", 2)
		}
	}
}

func TestNumbersUpToTheGreatestWord(t *testing.T) {
	for _, c := range []struct {
		text string
		n    int
	}{{"1", 1}, {"9", 9}, {"10", 10}, {"100", 100}, {"1000000000", 1000000000}, {"1073741822", greatest - 1}, {"1073741823", greatest}} {
		wantTokens(t, c.text, num(c.text, c.n, 0), end(len(c.text)))
		wantTokens(t, "a"+c.text+"-", name("a", 0), num(c.text, c.n, 1), sign("-", 1+len(c.text)), end(2+len(c.text)))
	}
	for _, run := range []string{"1073741824", "1073741825", "1073741830", "1100000000", "2000000000", "2147483648", "2147483649", "10737418230", "99999999999",
		"4294967297", "18446744073709551617", "36893488147419103233", strings.Repeat("1", 900),
		"00", "01", "05", "007", "0000000001", "01073741823", strings.Repeat("0", 900)} {
		wantNone(t, run, 0)
		wantNone(t, "a "+run, 2)
		wantNone(t, "ab"+run+" #", 2)
		wantNone(t, "\n-"+run+"abcdefghi", 2)
	}
}

func TestEverySign(t *testing.T) {
	all := everySign()
	for _, s := range all {
		wantTokens(t, s, sign(s, 0), end(len(s)))
		wantTokens(t, " "+s+" ", sign(s, 1), end(len(s)+2))
		wantTokens(t, "a"+s+"1", name("a", 0), sign(s, 1), num("1", 1, 1+len(s)), end(2+len(s)))
		for _, r := range all {
			wantTokens(t, s+" "+r, sign(s, 0), sign(r, len(s)+1), end(len(s)+len(r)+1))
			wantTokens(t, s+"\n"+r, sign(s, 0), sign(r, len(s)+1), end(len(s)+len(r)+1))
		}
	}
}

// Signs of two bytes are taken ahead of what they are made of, from the left.
func TestSignsOfTwoBytes(t *testing.T) {
	wantTokens(t, "->", sign("->", 0), end(2))
	wantTokens(t, "==", sign("==", 0), end(2))
	wantTokens(t, "===", sign("==", 0), sign("=", 2), end(3))
	wantTokens(t, "====", sign("==", 0), sign("==", 2), end(4))
	wantTokens(t, "=====", sign("==", 0), sign("==", 2), sign("=", 4), end(5))
	wantTokens(t, "= ==", sign("=", 0), sign("==", 2), end(4))
	wantTokens(t, "= =", sign("=", 0), sign("=", 2), end(3))
	wantTokens(t, "=\n=", sign("=", 0), sign("=", 2), end(3))
	wantTokens(t, "-", sign("-", 0), end(1))
	wantTokens(t, "--", sign("-", 0), sign("-", 1), end(2))
	wantTokens(t, "-->", sign("-", 0), sign("->", 1), end(3))
	wantTokens(t, "->-", sign("->", 0), sign("-", 2), end(3))
	wantTokens(t, "->->", sign("->", 0), sign("->", 2), end(4))
	wantTokens(t, "-=", sign("-", 0), sign("=", 1), end(2))
	wantTokens(t, "=-", sign("=", 0), sign("-", 1), end(2))
	wantTokens(t, "=->", sign("=", 0), sign("->", 1), end(3))
	wantTokens(t, "==->", sign("==", 0), sign("->", 2), end(4))
	wantTokens(t, "->==", sign("->", 0), sign("==", 2), end(4))
	wantTokens(t, "-==", sign("-", 0), sign("==", 1), end(3))
	wantTokens(t, "<-", sign("<", 0), sign("-", 1), end(2))
	wantTokens(t, "<=", sign("<", 0), sign("=", 1), end(2))
	wantNone(t, ">", 0)
	wantNone(t, "- >", 2)
	wantNone(t, "-\n>", 2)
	wantNone(t, "->>", 2)
	wantNone(t, "=>", 1)
	wantNone(t, "==>", 2)
	wantNone(t, ">=", 0)
	wantNone(t, ">-", 0)
	wantNone(t, "<>", 1)
}

// The first of what is none is told, whatever is behind it.
func TestWhereNoneBegins(t *testing.T) {
	wantNone(t, "#", 0)
	wantNone(t, "a #", 2)
	wantNone(t, "a\n\n#", 3)
	wantNone(t, "# #", 0)
	wantNone(t, "abcdefghi #", 0)
	wantNone(t, "# abcdefghi", 0)
	wantNone(t, "05 abcdefghi", 0)
	wantNone(t, "(abcdefghi 05)", 1)
	wantNone(t, "abcdefgh#i", 8)
	wantNone(t, "a\tb", 1)
	wantNone(t, "a\r\nb", 1)
	wantNone(t, "\x00", 0)
	wantNone(t, "a\x00", 1)
	wantNone(t, "a\x7f", 1)
	wantNone(t, "a\x80b", 1)
	wantNone(t, "ab\xffc", 2)
	wantNone(t, "caf\u00e9", 3)
	wantNone(t, "\u00e9", 0)
	wantNone(t, "a \u0410", 2)
	wantNone(t, "1\u0661", 1)
	wantNone(t, "\uff11", 0)
	wantNone(t, "1\u00a02", 1)
	wantNone(t, "x\u2192y", 1)
	wantNone(t, "\ufeffx", 0)
	wantNone(t, "x\xe2\x86", 1)
}

func TestEachByteAlone(t *testing.T) {
	signs := "(){};=|+-*<_"
	for b := 0; b < 256; b++ {
		s := string([]byte{byte(b)})
		src := "a " + s
		switch c := byte(b); {
		case c == ' ' || c == '\n':
			wantTokens(t, src, name("a", 0), end(3))
		case 'a' <= c && c <= 'z':
			wantTokens(t, src, name("a", 0), name(s, 2), end(3))
		case 'A' <= c && c <= 'Z':
			wantTokens(t, src, name("a", 0), con(s, 2), end(3))
		case '0' <= c && c <= '9':
			wantTokens(t, src, name("a", 0), num(s, int(c-'0'), 2), end(3))
		case strings.IndexByte(signs, c) >= 0:
			wantTokens(t, src, name("a", 0), sign(s, 2), end(3))
		default:
			wantNone(t, src, 2)
			wantNone(t, s+" a", 0)
			wantNone(t, "a"+s+"b", 1)
		}
	}
}

func TestSourceOfMaxBytesAndOfOneMore(t *testing.T) {
	pairs := strings.Repeat("a ", sourceBytes/2)
	got, bad := impl.Tokens(pairs)
	if bad != -1 || len(got) != sourceBytes/2+1 || got[len(got)-1] != end(sourceBytes) || got[len(got)-2] != name("a", sourceBytes-2) {
		t.Errorf("a source of MaxSource bytes: %d tokens and %d", len(got), bad)
	}
	wantTokens(t, strings.Repeat(" ", sourceBytes), end(sourceBytes))
	wantTokens(t, strings.Repeat("\n", sourceBytes-1)+"x", name("x", sourceBytes-1), end(sourceBytes))
	wantTokens(t, strings.Repeat(" ", sourceBytes-2)+"->", sign("->", sourceBytes-2), end(sourceBytes))
	wantTokens(t, strings.Repeat(" ", sourceBytes-1), end(sourceBytes-1))
	signs := strings.Repeat("(", sourceBytes)
	if got, bad := impl.Tokens(signs); bad != -1 || len(got) != sourceBytes+1 {
		t.Errorf("MaxSource signs: %d tokens and %d", len(got), bad)
	}
	for _, src := range []string{pairs + " ", pairs + "\n", pairs + "x", pairs + "(", signs + "(", strings.Repeat(" ", sourceBytes+1), strings.Repeat("\n", sourceBytes+1),
		strings.Repeat(" ", sourceBytes-1) + "->", pairs + pairs, strings.Repeat("a 1 ", 100000)} {
		wantNone(t, src, 0)
	}
}

// Of two reasons the one that the chapter names first counts: where what is none begins, ahead of what is too long.
func TestNoneAheadOfTooLong(t *testing.T) {
	blanks := strings.Repeat(" ", sourceBytes)
	wantNone(t, "a #"+blanks, 2)
	wantNone(t, "a 05"+blanks, 2)
	wantNone(t, "a abcdefghi"+blanks, 2)
	wantNone(t, "#"+blanks, 0)
	wantNone(t, blanks+"#", sourceBytes)
	wantNone(t, blanks[1:]+"#", sourceBytes-1)
	wantNone(t, blanks[1:]+"->>", sourceBytes+1)
	wantNone(t, strings.Repeat(" ", 1000000)+"\t", 1000000)
	wantNone(t, strings.Repeat("x", 1000000), 0)
	wantNone(t, strings.Repeat("9", 1000000), 0)
	wantNone(t, "a "+strings.Repeat("X", 1000000), 2)
}

var firstRun = regexp.MustCompile(`^(?:[a-zA-Z]+|[0-9]+|->|==|[(){};=|+*<_-]|[ \n]+)`)
var goodRun = regexp.MustCompile(`^(?:[a-zA-Z]{1,8}|0|[1-9][0-9]*|[^a-zA-Z0-9]*)$`)

// tokensBy tells the tokens by patterns and by numbers without end.
func tokensBy(src string) ([]impl.Token, int) {
	var list []impl.Token
	for at := 0; at < len(src); {
		run := firstRun.FindString(src[at:])
		if run == "" || !goodRun.MatchString(run) {
			return nil, at
		}
		switch c := run[0]; {
		case 'a' <= c && c <= 'z':
			list = append(list, name(run, at))
		case 'A' <= c && c <= 'Z':
			list = append(list, con(run, at))
		case '0' <= c && c <= '9':
			n, _ := new(big.Int).SetString(run, 10)
			if n.Cmp(big.NewInt(greatest)) > 0 {
				return nil, at
			}
			list = append(list, num(run, int(n.Int64()), at))
		case c != ' ' && c != '\n':
			list = append(list, sign(run, at))
		}
		at += len(run)
	}
	if len(src) > sourceBytes {
		return nil, 0
	}
	return append(list, end(len(src))), -1
}

func holdAgainstPatterns(t *testing.T, src string) {
	t.Helper()
	got, bad := impl.Tokens(src)
	want, place := tokensBy(src)
	if bad != place || !slices.Equal(got, want) {
		t.Errorf("Tokens(%q) is %v and %d, not %v and %d", short(src), got, bad, want, place)
	}
}

// TestTokensOfShortTexts goes through every text of at most two bytes, and every one of up to five of a few bytes.
func TestTokensOfShortTexts(t *testing.T) {
	for a := 0; a < 256; a++ {
		holdAgainstPatterns(t, string([]byte{byte(a)}))
		for b := 0; b < 256; b++ {
			holdAgainstPatterns(t, string([]byte{byte(a), byte(b)}))
		}
	}
	few := "aZ01->= #"
	var grow func(src string, left int)
	grow = func(src string, left int) {
		holdAgainstPatterns(t, src)
		for i := 0; left > 0 && i < len(few); i++ {
			grow(src+few[i:i+1], left-1)
		}
	}
	grow("", 5)
}

// mixedTexts are made of pieces in an order that is the same at each run.
func mixedTexts(many int) []string {
	pieces := append(everySign(), everyKeyword()...)
	pieces = append(pieces, "x", "abcdefgh", "Abcdefgh", "Int", "List", "0", "7", "10", "1073741823", " ", " ", " ", "\n", "\n ", "  ", " a ", " 1 ", "\n(")
	wrong := []string{"#", "\t", "\x80", "\u00e9", "05", "1073741824", "abcdefghi", ">", ","}
	state := uint32(1)
	next := func(below int) int {
		state = state*1664525 + 1013904223
		return int(state>>16) % below
	}
	var list []string
	for len(list) < many {
		src := ""
		for left := next(60); left > 0; left-- {
			if next(100) == 0 {
				src += wrong[next(len(wrong))]
			} else {
				src += pieces[next(len(pieces))]
			}
		}
		list = append(list, src)
	}
	return list
}

func TestTokensOfMixedTexts(t *testing.T) {
	good, none := 0, 0
	for _, src := range mixedTexts(20000) {
		holdAgainstPatterns(t, src)
		if _, bad := impl.Tokens(src); bad == -1 {
			good++
		} else {
			none++
		}
	}
	if good < 1000 || none < 1000 {
		t.Errorf("the texts are too much alike: %d have tokens, %d none", good, none)
	}
}

// Promise 2: each token begins where it is told, nothing but what stands between is left out, and TkEnd is at the end.
func TestEachTokenBeginsWhereItIsTold(t *testing.T) {
	for _, src := range mixedTexts(5000) {
		list, bad := impl.Tokens(src)
		if bad != -1 {
			if bad < 0 || bad >= len(src) || strings.ContainsRune(" \n", rune(src[bad])) {
				t.Errorf("what is none in %q begins at %d", src, bad)
			}
			if _, ahead := impl.Tokens(src[:bad]); ahead != -1 {
				t.Errorf("what is none in %q begins ahead of %d, at %d", src, bad, ahead)
			}
			continue
		}
		at := 0
		for i, token := range list {
			if token.At < at || token.At > len(src) || strings.Trim(src[at:token.At], " \n") != "" || !strings.HasPrefix(src[token.At:], token.Text) {
				t.Fatalf("token %d of %q, %v, does not begin there", i, src, token)
			}
			if (token.Kind == impl.TkEnd) != (i == len(list)-1) || (token.Text == "") != (token.Kind == impl.TkEnd) {
				t.Fatalf("token %d of %q, %v, is not one for that place", i, src, token)
			}
			at = token.At + len(token.Text)
		}
		if at != len(src) {
			t.Errorf("the tokens of %q end at %d", src, at)
		}
	}
}

func TestKeywords(t *testing.T) {
	for _, s := range everyKeyword() {
		if !impl.Keyword(s) {
			t.Errorf("%q is no keyword", s)
		}
		wantTokens(t, s, name(s, 0), end(len(s)))
		near := []string{strings.ToUpper(s), strings.ToUpper(s[:1]) + s[1:], s + "s", "x" + s, s[1:], s[:len(s)-1], s + " ", " " + s, s + "\n", s + "\x00", s + s, s[:1] + "\u0301" + s[1:]}
		for _, other := range near {
			if impl.Keyword(other) && !slices.Contains(everyKeyword(), other) {
				t.Errorf("%q is a keyword", other)
			}
		}
	}
	for _, s := range []string{"", " ", "\n", "x", "a", "i", "o", "f", "int", "Int", "Data", "type", "where", "match", "with", "end", "not", "and", "or", "letrec", "func", "elseif", "then else", "->", "==", "_", "0", "1", "\xff", "\u017fet", strings.Repeat("let", 100000)} {
		if impl.Keyword(s) {
			t.Errorf("%q is a keyword", short(s))
		}
	}
}

// TestKeywordsOfShortTexts goes through every text of up to four small letters, and of one large one ahead of up to two small ones.
func TestKeywordsOfShortTexts(t *testing.T) {
	all := everyKeyword()
	var grow func(s string, left int)
	grow = func(s string, left int) {
		if is := slices.Contains(all, s); impl.Keyword(s) != is {
			t.Errorf("Keyword(%q) is %v", s, !is)
		}
		for c := byte('a'); left > 0 && c <= 'z'; c++ {
			grow(s+string(rune(c)), left-1)
		}
	}
	grow("", 4)
	for c := 'A'; c <= 'Z'; c++ {
		grow(string(c), 2)
	}
}

// Promise 25: the same at every call, from many at once, whatever was done to an answer.
func TestKeywordsFromManyAtOnce(t *testing.T) {
	var wait sync.WaitGroup
	wrong := make([]int, 16)
	for i := range wrong {
		wait.Go(func() {
			for _, s := range everyKeyword() {
				if !impl.Keyword(s) || impl.Keyword(s+"x") {
					wrong[i]++
				}
			}
		})
	}
	wait.Wait()
	if slices.Max(wrong) != 0 {
		t.Error("a keyword is none, asked by many at once")
	}
}

func TestTokensAreNewMemory(t *testing.T) {
	bytes := []byte("let xs = Cons 12 == -> (y)")
	src := string(bytes)
	first, _ := impl.Tokens(src)
	want := slices.Clone(first)
	begin := uintptr(unsafe.Pointer(unsafe.StringData(src)))
	for i, token := range first {
		place := uintptr(unsafe.Pointer(unsafe.StringData(token.Text)))
		if token.Text != "" && place >= begin && place < begin+uintptr(len(src)) {
			t.Errorf("token %d, %v, is a piece of the source", i, token)
		}
	}
	for i := range first {
		first[i] = impl.Token{Kind: 9, Text: "gone", N: 9, At: 9}
	}
	again, bad := impl.Tokens(src)
	if bad != -1 || !slices.Equal(again, want) || src != string(bytes) {
		t.Errorf("asked again, the tokens are %v and %d, not %v", again, bad, want)
	}
}
