package tests

import (
	"slices"
	"strconv"
	"strings"
	"testing"

	"loop.example/g00323/impl"
)

// again is a text so many times, with another one between.
func again(text, between string, many int) string {
	return strings.Join(slices.Repeat([]string{text}, many), between)
}

// buildDatas have cons of two, 20 and 21 ints, one of anything, and one of 20 kids that may be within itself.
func buildDatas() string {
	ints := func(many int) string { return strings.Repeat(" Int", many) }
	return "data V = V Int Int; data O a = N | S a; data U = U" + ints(20) + "; data W = W" + ints(21) + "; data Q = Z | Q" + ints(19) + " Q; "
}

// keptText is a closure in which so many names are kept, applied: 20 of them are bound by a pattern, one more by a let.
func keptText(many int) string {
	const names = "a b c d e g h i j k l m n o p q r s t v"
	list := strings.Fields(names)[:min(many, 20)]
	sums := "(" + strings.Join(list, " + ") + ")"
	if len(list) > 9 {
		sums = "(" + strings.Join(list[:9], " + ") + ") + (" + strings.Join(list[9:], " + ") + ")"
	}
	text := "fun z -> " + sums
	if many > 20 {
		text = "let w = 1 in fun z -> w + " + sums
	}
	return "((case U" + strings.Repeat(" 1", 20) + " of { U " + names + " -> " + text + " }) 1)"
}

// stackedText has so many cons of 20 kids within each other, in their last kids, behind so many lets: values that stand behind each other.
func stackedText(cons, lets int) string {
	text := "Z"
	for range cons {
		text = "Q" + strings.Repeat(" 1", 19) + " (" + text + ")"
	}
	return "(" + strings.Repeat("let x = 1 in ", lets) + "case " + text + " of { _ -> 1 })"
}

// functionsText is a sum in which there are so many functions.
func functionsText(many int) string {
	var rows []string
	for many > 0 {
		row := min(many, 8)
		rows = append(rows, "("+again("(fun x -> x) 1", " + ", row)+")")
		many -= row
	}
	return "(" + strings.Join(rows, " + ") + ")"
}

// treesText is a case of so many numbers and of all others.
func treesText(many int) string {
	var alts []string
	for n := range many {
		alts = append(alts, strconv.Itoa(n)+" -> 1")
	}
	return "(case 1 of { " + strings.Join(append(alts, "_ -> 1"), "; ") + " })"
}

// nodesText has a name of a field that is far down so often, each of which is 13 nodes with the sum that it is in.
func nodesText(many int) string {
	pattern, value := "x", "1"
	for range 11 {
		pattern, value = "S ("+pattern+")", "S ("+value+")"
	}
	var sums []string
	for ; many > 0; many -= 6 {
		sums = append(sums, "("+again("x", " + ", min(many, 6))+")")
	}
	var rows []string
	for part := range slices.Chunk(sums, 6) {
		rows = append(rows, "("+strings.Join(part, " + ")+")")
	}
	return "(case " + value + " of { " + pattern + " -> " + strings.Join(rows, " + ") + "; _ -> 1 })"
}

// halvedText covers all, in twice as many steps for each further column.
func halvedText(columns int) (datas, text string) {
	var alts []string
	for i := range columns {
		for _, con := range []string{"A", "B"} {
			row := slices.Repeat([]string{"_"}, columns)
			row[i], row[(i+1)%columns] = con, con
			alts = append(alts, "H "+strings.Join(row, " ")+" -> 1")
		}
	}
	return "data G = A | B; data H = H" + strings.Repeat(" G", columns) + "; ", "(case H" + strings.Repeat(" A", columns) + " of { " + strings.Join(append(alts, "_ -> 1"), "; ") + " })"
}

// faultyParts are parts of a sum, by the only code that fits each, over buildDatas.
func faultyParts() map[int][]string {
	return map[int][]string{
		impl.BdDone:  {"1", "put 2", "(fun x -> x) 3", "(let f = fun x -> x in f f 4)", "(case V 1 2 of { V x _ -> x })", keptText(20), stackedText(2, 1), functionsText(4), treesText(5)},
		impl.BdParse: {"(", "1)", "05", "(1 + )", "fun", "(fun Int -> 1)", "$", "\x00", "\xff", "é", "(case 1 of { })", "let in 1", "(V 1 2", strings.Repeat("(put ", 24) + "1" + strings.Repeat(")", 24), "abcdefghi", "1073741824"},
		impl.BdType:  {"(1 2)", "nobody", "(Nobody)", "(V 1)", "(V 1 N)", "(fun x -> x x)", "(case V 1 1 of { V x x -> x })", "(case 1 of { N -> 1; _ -> 1 })", "(if N then 1 else 1)", "(fun x -> x)", "N", "(rec f x = f in 1)"},
		impl.BdMiss:  {"(case 1 of { 1 -> 1 })", "(case N of { S x -> 1 })", "(case V 1 2 of { V 1 _ -> 1; V _ 2 -> 1 })", "((fun x -> case x of { 1 -> 1 }) 1)", "(let f = fun x -> case S x of { N -> 1; S 1 -> 2 } in 1)", "(case 1 of { _ -> 1; 2 -> case 1 of { 2 -> 3 } })"},
		impl.BdClose: {functionsText(60), treesText(150), nodesText(200)},
		impl.BdGen:   {"(case W" + strings.Repeat(" 1", 21) + " of { _ -> 1 })", keptText(21), stackedText(4, 0), stackedText(3, 2), "((fun y -> " + stackedText(4, 0) + ") 1)"},
	}
}

// Of each part its code is told, wherever it stands.
func TestBuildOfEachFault(t *testing.T) {
	for want, parts := range faultyParts() {
		for _, part := range parts {
			for _, about := range []string{"put (#)", "# + 1", "1 + #", "(fun n -> 1 + #) 5", "let n = # + 0 in n", "if 0 then 1 + # else 2", "case 1 of { 7 -> 0 + #; _ -> 2 }", "case # * 1 of { _ -> 0 }", "rec f n = if n then # + f (n - 1) else 0 in f 2"} {
				wantBuilt(t, buildDatas()+strings.ReplaceAll(about, "#", part), want)
			}
		}
	}
}

// Whatever stands first in the text: the first code is told.
func TestBuildOfManyFaults(t *testing.T) {
	s := steps(211)
	parts := faultyParts()
	for i := range 960 {
		want := impl.BdDone
		var list []string
		for code := impl.BdGen; code >= impl.BdParse; code-- {
			if (i>>(code-1))&1 == 1 {
				list = append(list, s.pick(parts[code]...))
				want = code
			}
		}
		list = append(list, s.pick("1", "put 2", "(fun x -> x) 3", "(case V 1 2 of { V x _ -> x })"))
		for at := range list {
			other := s.below(len(list))
			list[at], list[other] = list[other], list[at]
		}
		src := buildDatas() + strings.Join(list, " + ")
		if len(src) > sourceBytes {
			t.Fatalf("a text of %d bytes", len(src))
		}
		wantBuilt(t, src, want)
	}
}

// Datas that are not right are told as types are, whatever the rest is.
func TestBuildOfWrongDatas(t *testing.T) {
	parts := faultyParts()
	var cons []string
	for i := range consMost + 1 {
		cons = append(cons, "C"+letters(i))
	}
	for _, wrong := range []string{"data V = X;", "data X = Y | Y;", "data X = V;", "data X = X Nobody;", "data X = X (O);", "data X a = X (X a a);", "data X = X V (O V V);", "data X = " + strings.Join(cons, " | ") + ";"} {
		for code := impl.BdDone; code <= impl.BdGen; code++ {
			src := buildDatas() + wrong + " " + parts[code][0]
			if code == impl.BdParse {
				wantBuilt(t, src, impl.BdParse)
			} else {
				wantBuilt(t, src, impl.BdType)
			}
		}
	}
}

func TestBuildOfLimits(t *testing.T) {
	for _, c := range []struct {
		text string
		want int
	}{
		{functionsText(59), impl.BdDone}, {functionsText(60), impl.BdClose}, {functionsText(61), impl.BdClose},
		{treesText(148), impl.BdDone}, {treesText(149), impl.BdDone}, {treesText(150), impl.BdClose},
		{keptText(19), impl.BdDone}, {keptText(20), impl.BdDone}, {keptText(21), impl.BdGen},
		{stackedText(2, 0), impl.BdDone}, {stackedText(3, 0), impl.BdDone}, {stackedText(3, 1), impl.BdDone}, {stackedText(3, 2), impl.BdGen}, {stackedText(3, 3), impl.BdGen},
		{"U" + strings.Repeat(" 1", 20), impl.BdDone}, {"W" + strings.Repeat(" 1", 21), impl.BdGen},
		// What no tree comes to is not made, and may be too wide, not too deep.
		{"case 1 of { _ -> N; 2 -> S (W" + strings.Repeat(" 1", 21) + ") }", impl.BdDone},
		{"case 1 of { _ -> 1; 2 -> " + functionsText(61) + " }", impl.BdDone},
		{"case 1 of { _ -> 1; 2 -> " + treesText(150) + " }", impl.BdClose},
		{"fun x -> case x of { _ -> 1; 2 -> (case W" + strings.Repeat(" 1", 21) + " of { _ -> 1 }) }", impl.BdDone},
	} {
		wantBuilt(t, buildDatas()+c.text, c.want)
	}
	// The nodes that are there without the names are less than 300.
	most, refused := 0, 0
	for many := 142; many < 150; many++ {
		src := buildDatas() + nodesText(many)
		p, _ := impl.Parse(src)
		blocks, ok := impl.Close(p)
		if !ok {
			wantBuilt(t, src, impl.BdClose)
			refused++
			continue
		}
		most = max(most, impl.IrSize(blocks[0].Body))
		wantBuilt(t, src, impl.BdDone)
	}
	if most <= irMost-13 || most > irMost || refused == 0 {
		t.Errorf("the greatest one has %d nodes, and %d are refused", most, refused)
	}
}

// What is covered is none the less told as missing where that takes too many steps.
func TestBuildOfWhatTakesTooManySteps(t *testing.T) {
	for columns, want := range map[int]int{4: impl.BdDone, 5: impl.BdDone, 12: impl.BdMiss, 13: impl.BdMiss, 14: impl.BdMiss} {
		datas, text := halvedText(columns)
		wantBuilt(t, datas+text, want)
		wantBuilt(t, datas+text+" N", impl.BdType)
		wantBuilt(t, datas+text+" (", impl.BdParse)
		if want == impl.BdMiss {
			wantBuilt(t, datas+text+" + 1 + "+functionsText(61), want)
		}
	}
}

func TestBuildOfNoProgram(t *testing.T) {
	for _, src := range []string{"", " ", "\n", " \n\n ", "\t1", "1\r\n", "1;", ";", "1 1 1 )", "data", "data X", "data X =", "data X = X", "data X = X;", "data X = X; data", "data Int = X; 1", "data X = Int; 1", "data x = X; 1", "data X x = X y; 1", "\x00", "\x80", "1\xff", "\xf0\x9f\x98\x80", "ä", "1 # 2", "1 > 2", "00", "-1", "x'", "\"x\"", "fun x", "fun x -> ", "fun X -> X", "let x 1 in x", "let x = 1", "rec f = 1 in f", "rec f x y = 1 in f", "case", "case 1", "case 1 of 1 -> 1", "case 1 of { 1 -> 1; }", "case 1 of { 1 + 1 -> 1 }", "if 1 then 2", "1 < 2 < 3", "1 == 2 == 3", "put", "1 + fun x -> x", "(1", "1)", "()", "fun fun -> 1", "let of = 1 in of", "1073741824", "9999999999999999999999", "abcdefghi", "Abcdefghi"} {
		wantBuilt(t, src, impl.BdParse)
	}
	// These are two words, of which the name is bound by nothing.
	wantBuilt(t, "a1", impl.BdType)
	wantBuilt(t, "1a", impl.BdType)
	// As deep as it may be, and one more.
	for deep := 22; deep <= 27; deep++ {
		parsed := func(deep, want int) int {
			if deep > treeDeep {
				return impl.BdParse
			}
			return want
		}
		wantBuilt(t, strings.Repeat("put (", deep-1)+"1"+strings.Repeat(")", deep-1), parsed(deep, impl.BdDone))
		wantBuilt(t, strings.Repeat("fun x -> ", deep-1)+"x", parsed(deep, impl.BdDone))
		wantBuilt(t, strings.Repeat("(fun x -> ", deep-2)+"1 2"+strings.Repeat(")", deep-2), parsed(deep, impl.BdType))
		wantBuilt(t, "data X = X "+strings.Repeat("(Int -> ", deep-1)+"Int"+strings.Repeat(")", deep-1)+"; 1", parsed(deep, impl.BdDone))
		wantBuilt(t, "case N of { "+strings.Repeat("S (", deep-3)+"N"+strings.Repeat(")", deep-3)+" -> 1 }", parsed(deep, impl.BdType))
		wantBuilt(t, "case 1 of { 1 -> "+strings.Repeat("put (", deep-3)+"1"+strings.Repeat(")", deep-3)+" }", parsed(deep, impl.BdMiss))
	}
	for vars, want := range map[int]int{25: impl.BdDone, 26: impl.BdDone, 27: impl.BdParse} {
		var names []string
		for i := range vars {
			names = append(names, "v"+strings.ToLower(letters(i)))
		}
		wantBuilt(t, "data X "+strings.Join(names, " ")+" = X; 1", want)
	}
}

// A text may be as long as a source may be, and no longer, whatever is in it.
func TestBuildOfLongTexts(t *testing.T) {
	for _, c := range []struct {
		text string
		want int
	}{{"1", impl.BdDone}, {"1 2", impl.BdType}, {"case 1 of { 1 -> 1 }", impl.BdMiss}, {functionsText(60), impl.BdClose}, {"data W = W" + strings.Repeat(" Int", 21) + "; W" + strings.Repeat(" 1", 21), impl.BdGen}, {"(", impl.BdParse}} {
		for _, blank := range []string{" ", "\n"} {
			for _, more := range []int{-1, 0, 1, 2, 5000} {
				want := c.want
				if more > 0 {
					want = impl.BdParse
				}
				blanks := strings.Repeat(blank, sourceBytes-len(c.text)+more)
				wantBuilt(t, c.text+blanks, want)
				wantBuilt(t, blanks+c.text, want)
			}
		}
	}
	for _, many := range []int{sourceBytes, sourceBytes + 1, 1 << 20} {
		wantBuilt(t, strings.Repeat("(", many), impl.BdParse)
		wantBuilt(t, strings.Repeat("\xff", many), impl.BdParse)
	}
	quickly(t, "a great text", func() {
		if _, code := impl.Build(strings.Repeat("x ", 1<<24)); code != impl.BdParse {
			t.Error("a great text is parsed")
		}
	})
}

// What is built, told by hand.
func TestBuildByHand(t *testing.T) {
	for src, want := range map[string]string{
		"1":                             "num 1 0, ret 0 0",
		"0 - 5":                         "num 0 0, num 5 0, sub 0 0, ret 0 0",
		"let x = put 3 in x * x":        "num 3 0, put 0 0, local 1 0, local 1 0, mul 0 0, slide 0 0, ret 0 0",
		"data A = X | Y Int; Y 4":       "num 4 0, con 1 1, ret 0 0",
		"if 1 then 2 else 3":            "num 1 0, zero 4 0, num 2 0, jump 5 0, num 3 0, ret 0 0",
		"case 2 of { 2 -> 1; _ -> 0 }":  "num 2 0, local 1 0, isnum 2 5, num 1 0, jump 6 0, num 0 0, slide 0 0, ret 0 0",
		"fun x -> x + 1":                "clos 1 0, ret 0 0; local 0 0, num 1 0, add 0 0, ret 0 0",
		"rec f x = f x in f":            "clos 1 0, local 1 0, slide 0 0, ret 0 0; self 0 0, local 0 0, call 0 0, ret 0 0",
		"let a = 7 in fun x -> x == a":  "num 7 0, local 1 0, clos 1 1, slide 0 0, ret 0 0; 1: local 0 0, free 0 0, same 0 0, ret 0 0",
		"(fun x -> fun y -> x < y) 1 2": "clos 1 0, num 1 0, call 0 0, num 2 0, call 0 0, ret 0 0; local 0 0, clos 2 1, ret 0 0; 1: free 0 0, local 0 0, less 0 0, ret 0 0",
	} {
		funs, code := impl.Build(src)
		var rows []string
		for _, f := range funs {
			var row []string
			for _, o := range f.List {
				row = append(row, impl.OpText(o))
			}
			text := strings.Join(row, ", ")
			if f.Free > 0 {
				text = strconv.Itoa(f.Free) + ": " + text
			}
			rows = append(rows, text)
		}
		if got := strings.Join(rows, "; "); code != impl.BdDone || got != want {
			t.Errorf("Build of %s is %d and\n%s, not\n%s", src, code, got, want)
		}
		wantBuilt(t, src, impl.BdDone)
	}
}

func TestBuildOfTypedPrograms(t *testing.T) {
	for _, c := range typedPrograms() {
		wantBuilt(t, evalDatas+c[1], impl.BdDone)
	}
}
