package tests

import (
	"strconv"
	"strings"
	"testing"

	"loop.example/g00323/impl"
)

// The tags are N 0, S 1, E 2, C 3, T 4.
const closeDatas = "data O a = N | S a; data L a = E | C a (L a); data T = T Int Int Int; "

func closeProg(src string) impl.Prog {
	p, bad := impl.Parse(closeDatas + src)
	if bad != -1 {
		panic("no program: " + src + " at " + strconv.Itoa(bad))
	}
	return p
}

func wantClosed(t *testing.T, src, want string) {
	t.Helper()
	if _, blocks := holdRun(t, closeProg(src)); blocksText(blocks) != want {
		t.Errorf("%s is closed as\n%s, not\n%s", src, blocksText(blocks), want)
	}
}

func wantClosedOf(t *testing.T, all map[string]string) {
	t.Helper()
	for src, want := range all {
		wantClosed(t, src, want)
	}
}

func TestCloseOfEachKindOfNode(t *testing.T) {
	wantClosedOf(t, map[string]string{
		"5": "0: 5", "0": "0: 0", "1073741823": "0: 1073741823",
		"1 + 2": "0: (1 + 2)", "1 - 2": "0: (1 - 2)", "1 * 2": "0: (1 * 2)", "1 < 2": "0: (1 < 2)", "1 == 2": "0: (1 == 2)",
		"1 + 2 * 3 - 4": "0: ((1 + (2 * 3)) - 4)", "if 1 then 2 else 3": "0: if(1, 2, 3)", "put 7": "0: put(7)", "put (put 1 + 2)": "0: put((put(1) + 2))",
		"N": "0: #0", "S 1": "0: #1(1)", "E": "0: #2", "C 1 (C 2 E)": "0: #3(1, #3(2, #2))", "T 1 2 3": "0: #4(1, 2, 3)", "S N": "0: #1(#0)",
		"fun x -> x": "0: <1>; 0: l0", "fun x -> 3": "0: <1>; 0: 3", "(fun x -> x) 3": "0: (<1> 3); 0: l0",
		"let x = 1 in x": "0: [1 | l1]", "let x = 1 in 2": "0: [1 | 2]",
		"rec f x = f x in f": "0: [<1> | l1]; 0: (self l0)", "rec f x = x in 1": "0: [<1> | 1]; 0: l0", "rec f x = x in f 4": "0: [<1> | (l1 4)]; 0: l0",
		"case 3 of { x -> x + x }": "0: [3 | (l1 + l1)]", "case 3 of { _ -> 4 }": "0: [3 | 4]"})
}

func TestCloseOfEachKindOfTree(t *testing.T) {
	wantClosedOf(t, map[string]string{
		"case N of { N -> 1; S x -> x }":                 "0: [#0 | #0?(l1, 1, #1?(l1, l1.0, !))]",
		"case 3 of { 0 -> 1; 7 -> 2; x -> x }":           "0: [3 | 0?(l1, 1, 7?(l1, 2, l1))]",
		"case 3 of { 1073741823 -> 1 }":                  "0: [3 | 1073741823?(l1, 1, !)]",
		"case N of { S _ -> 1 }":                         "0: [#0 | #1?(l1, 1, !)]",
		"case S 1 of { S 1 -> 2; y -> 3 }":               "0: [#1(1) | #1?(l1, 1?(l1.0, 2, 3), 3)]",
		"case S (S 1) of { S (S x) -> x }":               "0: [#1(#1(1)) | #1?(l1, #1?(l1.0, l1.0.0, !), !)]",
		"case T 1 2 3 of { T x y z -> z - x }":           "0: [#4(1, 2, 3) | #4?(l1, (l1.2 - l1.0), !)]",
		"case C 1 E of { C _ (C _ t) -> t }":             "0: [#3(1, #2) | #3?(l1, #3?(l1.1, l1.1.1, !), !)]",
		"case C 1 E of { C x (C y _) -> x + y; _ -> 0 }": "0: [#3(1, #2) | #3?(l1, #3?(l1.1, (l1.0 + l1.1.0), 0), 0)]"})
	// As deep as a pattern may be.
	for _, deep := range []int{1, 2, 9, 21} {
		pattern, want := "x", "l1"+strings.Repeat(".1", deep)
		for i := range deep {
			pattern = "C _ (" + pattern + ")"
			want = "#3?(l1" + strings.Repeat(".1", deep-1-i) + ", " + want + ", #2)"
		}
		wantClosed(t, "case E of { "+pattern+" -> x; _ -> E }", "0: [#2 | "+want+"]")
	}
	// A name on each storey, and what is left behind the last one.
	for _, deep := range []int{1, 2, 3, 4, 5, 8, 20} {
		pattern, want := "t", "l1"+strings.Repeat(".1", deep)
		for i := range deep {
			pattern = "C " + varName(deep-1-i) + " (" + pattern + ")"
			want = "#3(l1" + strings.Repeat(".1", deep-1-i) + ".0, " + want + ")"
		}
		for i := range deep {
			want = "#3?(l1" + strings.Repeat(".1", deep-1-i) + ", " + want + ", !)"
		}
		wantClosed(t, "case E of { "+pattern+" -> "+pattern+" }", "0: [#2 | "+want+"]")
	}
}

// Each name once, in the order in which it is first met from the left.
func TestWhatAClosureKeeps(t *testing.T) {
	wantClosedOf(t, map[string]string{
		"let a = 4 in (fun x -> fun y -> x + a * y) a":                                 "0: [4 | (<1 l1> l1)]; 1: <2 l0 f0>; 2: (f0 + (f1 * l0))",
		"let a = 1 in let b = 2 in let c = 3 in fun x -> c + a + b + c + a":            "0: [1 | [2 | [3 | <1 l3 l1 l2>]]]; 3: ((((f0 + f1) + f2) + f0) + f1)",
		"let a = 1 in let b = 2 in fun x -> b":                                         "0: [1 | [2 | <1 l2>]]; 1: f0",
		"let a = 1 in fun x -> T x a x":                                                "0: [1 | <1 l1>]; 1: #4(l0, f0, l0)",
		"let a = 1 in let b = 2 in fun x -> if b then a else b":                        "0: [1 | [2 | <1 l2 l1>]]; 2: if(f0, f1, f0)",
		"let a = 1 in let b = 2 in fun x -> let c = b in a + c":                        "0: [1 | [2 | <1 l2 l1>]]; 2: [f0 | (f1 + l1)]",
		"let a = 1 in let b = 2 in let c = 3 in fun x -> rec f y = b + x + a in c":     "0: [1 | [2 | [3 | <1 l2 l1 l3>]]]; 3: [<2 f0 l0 f1> | f2]; 3: ((f0 + f1) + f2)",
		"let a = 1 in let b = 2 in let c = 3 in fun x -> case c of { 1 -> b; y -> a }": "0: [1 | [2 | [3 | <1 l3 l2 l1>]]]; 3: [f0 | 1?(l1, f1, f2)]"})
}

// A function keeps what only one within it asks for.
func TestWhatAFunctionWithinAsksFor(t *testing.T) {
	wantClosedOf(t, map[string]string{
		"let a = 1 in fun x -> fun y -> a":                                          "0: [1 | <1 l1>]; 1: <2 f0>; 1: f0",
		"let a = 1 in fun x -> fun y -> fun z -> a + x":                             "0: [1 | <1 l1>]; 1: <2 f0 l0>; 2: <3 f0 f1>; 2: (f0 + f1)",
		"let a = 1 in let b = 2 in fun x -> (fun y -> b) a":                         "0: [1 | [2 | <1 l2 l1>]]; 2: (<2 f0> f1); 1: f0",
		"let a = 1 in let b = 2 in fun x -> (fun y -> b + x + a) (a + b)":           "0: [1 | [2 | <1 l2 l1>]]; 2: (<2 f0 l0 f1> (f1 + f0)); 3: ((f0 + f1) + f2)",
		"let a = 1 in let b = 2 in fun x -> (fun y -> a) ((fun z -> b) a)":          "0: [1 | [2 | <1 l1 l2>]]; 2: (<2 f0> (<3 f1> f0)); 1: f0; 1: f0",
		"fun x -> fun y -> fun z -> T z y x":                                        "0: <1>; 0: <2 l0>; 1: <3 l0 f0>; 2: #4(l0, f0, f1)",
		"let a = 1 in fun x -> let b = 2 in fun y -> let c = 3 in fun z -> T a b c": "0: [1 | <1 l1>]; 1: [2 | <2 f0 l1>]; 2: [3 | <3 f0 f1 l1>]; 3: #4(f0, f1, f2)"})
}

// What is bound again within a function is not kept, but where it is asked outside of that.
func TestNamesThatAreBoundAgain(t *testing.T) {
	wantClosedOf(t, map[string]string{
		"let a = 1 in fun a -> a":                                            "0: [1 | <1>]; 0: l0",
		"let a = 1 in fun x -> (let a = a + x in a) + a":                     "0: [1 | <1 l1>]; 1: ([(f0 + l0) | l1] + f0)",
		"let a = 1 in fun x -> let a = 2 in fun y -> a":                      "0: [1 | <1>]; 0: [2 | <2 l1>]; 1: f0",
		"let a = 1 in fun x -> let a = a in fun y -> a":                      "0: [1 | <1 l1>]; 1: [f0 | <2 l1>]; 1: f0",
		"let a = 1 in fun x -> (fun a -> a) a":                               "0: [1 | <1 l1>]; 1: (<2> f0); 0: l0",
		"let a = 1 in fun x -> case x of { a -> a + 0 }":                     "0: [1 | <1>]; 0: [l0 | (l1 + 0)]",
		"let a = 1 in fun x -> case a of { a -> a }":                         "0: [1 | <1 l1>]; 1: [f0 | l1]",
		"let a = 1 in fun x -> case x of { 0 -> a; a -> a }":                 "0: [1 | <1 l1>]; 1: [l0 | 0?(l1, f0, l1)]",
		"let a = 1 in fun x -> case x of { S a -> a; N -> a }":               "0: [1 | <1 l1>]; 1: [l0 | #1?(l1, l1.0, #0?(l1, f0, !))]",
		"let a = 1 in fun x -> case x of { T _ a 1 -> a; T b c d -> a + c }": "0: [1 | <1 l1>]; 1: [l0 | #4?(l1, 1?(l1.2, l1.1, (f0 + l1.1)), !)]",
		"let a = 1 in fun x -> rec a y = a y in a":                           "0: [1 | <1>]; 0: [<2> | l1]; 0: (self l0)",
		"let a = 1 in fun x -> rec g a = a in g a":                           "0: [1 | <1 l1>]; 1: [<2> | (l1 f0)]; 0: l0",
		"let a = 1 in let a = a + 1 in let a = a + 1 in fun x -> a":          "0: [1 | [(l1 + 1) | [(l2 + 1) | <1 l3>]]]; 1: f0",
		"fun x -> fun x -> fun x -> x":                                       "0: <1>; 0: <2>; 0: <3>; 0: l0",
		"fun x -> let x = x in let x = x in x":                               "0: <1>; 0: [l0 | [l1 | l2]]"})
}

// What a pattern bound is kept as what it is, field by field, and not the value that was asked.
func TestNamesOfPatternsThatAreKept(t *testing.T) {
	wantClosedOf(t, map[string]string{
		"fun p -> case p of { S x -> fun y -> x; N -> fun y -> y }":                             "0: <1>; 0: [l0 | #1?(l1, <2 l1.0>, #0?(l1, <3>, !))]; 1: f0; 0: l0",
		"fun p -> case p of { x -> fun y -> x }":                                                "0: <1>; 0: [l0 | <2 l1>]; 1: f0",
		"fun p -> case p of { C x (C y t) -> fun z -> C y (C x (C y t)) }":                      "0: <1>; 0: [l0 | #3?(l1, #3?(l1.1, <2 l1.1.0 l1.0 l1.1.1>, !), !)]; 3: #3(f0, #3(f1, #3(f0, f2)))",
		"case T 1 2 3 of { T x y z -> fun a -> fun b -> z + x }":                                "0: [#4(1, 2, 3) | #4?(l1, <1 l1.2 l1.0>, !)]; 2: <2 f0 f1>; 2: (f0 + f1)",
		"case S (S 4) of { S x -> fun a -> case x of { S y -> y; N -> a } }":                    "0: [#1(#1(4)) | #1?(l1, <1 l1.0>, !)]; 1: [f0 | #1?(l1, l1.0, #0?(l1, l0, !))]",
		"case S 4 of { S x -> rec f y = if y then f x else x in f }":                            "0: [#1(4) | #1?(l1, [<1 l1.0> | l2], !)]; 1: if(l0, (self f0), f0)",
		"case S 1 of { S x -> case S 2 of { S y -> case S 3 of { S z -> fun a -> T z x y } } }": "0: [#1(1) | #1?(l1, [#1(2) | #1?(l2, [#1(3) | #1?(l3, <1 l3.0 l1.0 l2.0>, !)], !)], !)]; 3: #4(f0, f1, f2)"})
}

func TestTheFunctionItself(t *testing.T) {
	wantClosedOf(t, map[string]string{
		// In its own body, and nowhere else.
		"rec f x = if x then f (x - 1) else 0 in f 3": "0: [<1> | (l1 3)]; 0: if(l0, (self (l0 - 1)), 0)",
		"rec f x = let y = f in y x in f":             "0: [<1> | l1]; 0: [self | (l1 l0)]",
		"rec f x = x in fun y -> f y":                 "0: [<1> | <2 l1>]; 0: l0; 1: (f0 l0)",
		"rec f x = x in rec g y = f y in g":           "0: [<1> | [<2 l1> | l2]]; 0: l0; 1: (f0 l0)",
		// In a function within it, it is kept as itself.
		"rec f x = if x then (fun y -> f y) (x - 1) else 0 in f 3": "0: [<1> | (l1 3)]; 0: if(l0, (<2 self> (l0 - 1)), 0); 1: (f0 l0)",
		"rec f x = (fun y -> (fun z -> f (z + y)) x) x in f 3":     "0: [<1> | (l1 3)]; 0: (<2 self l0> l0); 2: (<3 f0 l0> f1); 2: (f0 (l0 + f1))",
		"rec f x = rec g y = if y then f y else g x in g 1 in f 1": "0: [<1> | (l1 1)]; 0: [<2 self l0> | (l1 1)]; 2: if(l0, (f0 l0), (self f1))",
		"let a = 1 in rec f x = a + (fun y -> f a) x in f":         "0: [1 | [<1 l1> | l2]]; 1: (f0 + (<2 self f0> l0)); 2: (f0 f1)",
		"let a = 1 in rec f x = if x then f a else a in f a":       "0: [1 | [<1 l1> | (l2 l1)]]; 1: if(l0, (self f0), f0)",
		// It is bound again.
		"rec f f = f + 1 in f 2":                                                "0: [<1> | (l1 2)]; 0: (l0 + 1)",
		"rec f x = let f = x in f + f in f 2":                                   "0: [<1> | (l1 2)]; 0: [l0 | (l1 + l1)]",
		"rec f x = (fun f -> f + x) x in f 1":                                   "0: [<1> | (l1 1)]; 0: (<2 l0> l0); 1: (l0 + f0)",
		"rec f x = case x of { f -> f + 1 } in f 1":                             "0: [<1> | (l1 1)]; 0: [l0 | (l1 + 1)]",
		"rec f x = rec f y = if y then f (y - 1) else x in f x in f 1":          "0: [<1> | (l1 1)]; 0: [<2 l0> | (l1 l0)]; 1: if(l0, (self (l0 - 1)), f0)",
		"rec f x = if x then 0 else (let f = x in (fun y -> f) 1) + f 1 in f 1": "0: [<1> | (l1 1)]; 0: if(l0, 0, ([l0 | (<2 l1> 1)] + (self 1))); 1: f0",
		"rec f x = rec g f = f in g x in f 1":                                   "0: [<1> | (l1 1)]; 0: [<2> | (l1 l0)]; 0: l0",
		// Another one of its name is about it.
		"let f = 1 in rec f x = f x in f":     "0: [1 | [<1> | l2]]; 0: (self l0)",
		"let f = 1 in rec g f = f in g f":     "0: [1 | [<1> | (l2 l1)]]; 0: l0",
		"let f = 1 in (rec f x = f x in f) f": "0: [1 | ([<1> | l2] l1)]; 0: (self l0)",
		"fun f -> rec f f = f in f":           "0: <1>; 0: [<2> | l1]; 0: l0",
		"let x = 1 in rec f x = x in f x":     "0: [1 | [<1> | (l2 l1)]]; 0: l0"})
}

func TestWhichLocalIsWhich(t *testing.T) {
	wantClosedOf(t, map[string]string{
		"let a = (let b = 1 in b + b) in let c = a in a + c":                                             "0: [[1 | (l1 + l1)] | [l1 | (l1 + l2)]]",
		"let a = 1 in (let b = 2 in a + b) + (let c = 3 in let d = 4 in a + c + d)":                      "0: [1 | ([2 | (l1 + l2)] + [3 | [4 | ((l1 + l2) + l3)]])]",
		"let a = 1 in let b = (let c = 2 in a + c) in b + a":                                             "0: [1 | [[2 | (l1 + l2)] | (l2 + l1)]]",
		"fun x -> let a = x in let b = a in T x a b":                                                     "0: <1>; 0: [l0 | [l1 | #4(l0, l1, l2)]]",
		"let a = 1 in let b = 2 in fun x -> let c = 3 in c + x":                                          "0: [1 | [2 | <1>]]; 0: [3 | (l1 + l0)]",
		"rec f x = let a = x in a in let b = f 1 in f b":                                                 "0: [<1> | [(l1 1) | (l1 l2)]]; 0: [l0 | l1]",
		"rec f x = x in rec g y = y in f (g 1)":                                                          "0: [<1> | [<2> | (l1 (l2 1))]]; 0: l0; 0: l0",
		"case 1 of { x -> case 2 of { y -> case 3 of { z -> T x y z } } }":                               "0: [1 | [2 | [3 | #4(l1, l2, l3)]]]",
		"case (case 1 of { x -> x }) of { y -> y }":                                                      "0: [[1 | l1] | l1]",
		"case 1 of { 1 -> let a = 2 in a; x -> let b = 3 in case b of { 4 -> x; y -> x + b + y } }":      "0: [1 | 1?(l1, [2 | l2], [3 | [l2 | 4?(l3, l1, ((l1 + l2) + l3))]])]",
		"let a = 1 in case S 2 of { S x -> let b = x in rec f y = y + b in case f a of { z -> z + x } }": "0: [1 | [#1(2) | #1?(l2, [l2.0 | [<1 l3> | [(l4 l1) | (l5 + l2.0)]]], !)]]; 1: (l0 + f0)",
		"(let a = 1 in a) + (case 2 of { x -> x }) + (rec f y = y in f 3)":                               "0: (([1 | l1] + [2 | l1]) + [<1> | (l1 3)]); 0: l0"})
}

// Blocks come in the order in which functions are met: one ahead of those within it, and those within it ahead of the next one.
func TestWhichBlockIsWhich(t *testing.T) {
	wantClosedOf(t, map[string]string{
		"fun x -> fun y -> fun z -> 1":                                "0: <1>; 0: <2>; 0: <3>; 0: 1",
		"(fun a -> fun b -> 1) (fun c -> 2)":                          "0: (<1> <3>); 0: <2>; 0: 1; 0: 2",
		"let f = fun a -> fun b -> 1 in fun c -> 2":                   "0: [<1> | <3>]; 0: <2>; 0: 1; 0: 2",
		"rec f a = (fun b -> 1) 2 in fun c -> 3":                      "0: [<1> | <3>]; 0: (<2> 2); 0: 1; 0: 3",
		"C (fun a -> 1) (C (fun b -> 2) (C (fun c -> 3) E))":          "0: #3(<1>, #3(<2>, #3(<3>, #2))); 0: 1; 0: 2; 0: 3",
		"if (fun a -> 1) 1 then (fun b -> 2) else (fun c -> 3)":       "0: if((<1> 1), <2>, <3>); 0: 1; 0: 2; 0: 3",
		"case (fun a -> 1) 0 of { 1 -> fun b -> 2; x -> fun c -> 3 }": "0: [(<1> 0) | 1?(l1, <2>, <3>)]; 0: 1; 0: 2; 0: 3",
		"(rec f a = 1 in f) ((fun b -> fun c -> 2) 3)":                "0: ([<1> | l1] (<2> 3)); 0: 1; 0: <3>; 0: 2",
		// A tree may come to a later alternative first, and functions are met by that; what they keep is met in the program.
		"fun v -> case v of { S 1 -> fun a -> 1; N -> fun b -> 2; S x -> fun c -> x }":             "0: <1>; 0: [l0 | #1?(l1, 1?(l1.0, <2>, <3 l1.0>), #0?(l1, <4>, !))]; 0: 1; 1: f0; 0: 2",
		"let a = 1 in let b = 2 in let c = 3 in fun v -> case v of { S 1 -> a; N -> b; S x -> c }": "0: [1 | [2 | [3 | <1 l1 l2 l3>]]]; 3: [l0 | #1?(l1, 1?(l1.0, f0, f2), #0?(l1, f1, !))]"})
}

// A body stands wherever the tree comes to it, with functions of its own each time.
func TestAlternativesThatTheTreeComesToAgain(t *testing.T) {
	wantClosedOf(t, map[string]string{
		"fun t -> case t of { T 1 2 _ -> 0; T _ 2 _ -> 1; T x _ y -> x + y }":              "0: <1>; 0: [l0 | #4?(l1, 1?(l1.0, 2?(l1.1, 0, (l1.0 + l1.2)), 2?(l1.1, 1, (l1.0 + l1.2))), !)]",
		"fun t -> case t of { T 1 2 _ -> 0; T _ 2 _ -> 1; T x _ _ -> (fun y -> x) 5 }":     "0: <1>; 0: [l0 | #4?(l1, 1?(l1.0, 2?(l1.1, 0, (<2 l1.0> 5)), 2?(l1.1, 1, (<3 l1.0> 5))), !)]; 1: f0; 1: f0",
		"let a = 9 in case S 1 of { S 1 -> 2; _ -> let f = fun x -> fun y -> a in f 1 2 }": "0: [9 | [#1(1) | #1?(l2, 1?(l2.0, 2, [<1 l1> | ((l3 1) 2)]), [<3 l1> | ((l3 1) 2)])]]; 1: <2 f0>; 1: f0; 1: <4 f0>; 1: f0",
		"case S 1 of { S 1 -> 2; z -> case z of { S 2 -> 3; _ -> (fun x -> x) 4 } }":       "0: [#1(1) | #1?(l1, 1?(l1.0, 2, [l1 | #1?(l2, 2?(l2.0, 3, (<1> 4)), (<2> 4))]), [l1 | #1?(l2, 2?(l2.0, 3, (<3> 4)), (<4> 4))])]; 0: l0; 0: l0; 0: l0; 0: l0"})
	// To one that it never comes to there is no body, and no block; what is asked there is free all the same.
	wantClosedOf(t, map[string]string{
		"fun v -> case v of { x -> 1; y -> (fun z -> z) 2 }":                         "0: <1>; 0: [l0 | 1]",
		"let a = 1 in fun v -> case v of { x -> x; y -> a }":                         "0: [1 | <1 l1>]; 1: [l0 | l1]",
		"let a = 1 in let b = 2 in fun v -> case v of { N -> 0; N -> a; S x -> b }":  "0: [1 | [2 | <1 l1 l2>]]; 2: [l0 | #0?(l1, 0, #1?(l1, f1, !))]",
		"let a = 1 in fun v -> case v of { _ -> fun y -> y; S x -> fun y -> a + y }": "0: [1 | <1 l1>]; 1: [l0 | <2>]; 0: l0"})
}
