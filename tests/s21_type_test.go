package tests

import (
	"strings"
	"testing"

	"loop.example/g00323/impl"
)

// wantType wants a type, or, where it is empty, a code.
func wantType(t *testing.T, src, want string, code int) {
	t.Helper()
	holdTypeOf(t, workpieceOf(src), src)
	if got, how := impl.TypeOf(src); got != want || how != code {
		t.Errorf("TypeOf of %s is %q and %d, not %q and %d", ending(src), got, how, want, code)
	}
}

func TestTypeOfByHand(t *testing.T) {
	for src, want := range map[string]string{
		"1": "Int", "1 + 2 * 3": "Int", "1 < 2": "Int", "put 1": "Int", "fun x -> x": "(a -> a)", "fun x -> fun y -> x": "(a -> (b -> a))", "fun x -> fun y -> y": "(a -> (b -> b))",
		"fun f -> fun x -> f (f x)": "((a -> a) -> (a -> a))", "fun f -> fun g -> fun x -> f (g x)": "((a -> b) -> ((c -> a) -> (c -> b)))", "fun x -> x + 1": "(Int -> Int)",
		"let id = fun x -> x in id id": "(a -> a)", "let id = fun x -> x in id 1": "Int", "rec f x = f x in f": "(a -> b)", "rec f x = f x in f 1": "a", "rec f n = if n then f (n - 1) else n in f": "(Int -> Int)",
		"fun f -> rec g x = f x in g": "((a -> b) -> (a -> b))", "fun x -> case x of { 0 -> 1; y -> y }": "(Int -> Int)", "fun x -> case x of { y -> fun z -> y }": "(a -> (b -> a))",
		"N": "(L a)", "C 1 N": "(L Int)", "C N N": "(L (L a))", "fun x -> C x N": "(a -> (L a))", "P N (fun x -> x)": "(P (L a) (b -> b))", "L": "T", "B L (U L)": "T", "I 1": "I",
		"fun l -> case l of { N -> 0; C x t -> x }": "((L Int) -> Int)", "fun p -> case p of { P a b -> P b a }": "((P a b) -> (P b a))", "rec m f = fun l -> case l of { N -> N; C x t -> C (f x) (m f t) } in m": "((a -> b) -> ((L a) -> (L b)))",
		"fun b -> fun a -> P a b": "(a -> (b -> (P b a)))", "fun t -> case t of { L -> 0; _ -> 1 }": "(T -> Int)", "let k = fun x -> fun y -> x in P (k 1) (k N)": "(P (a -> Int) (b -> (L c)))",
		// What is missed, or can't be closed or made, has a type none the less.
		"case 1 of { 1 -> N }": "(L a)", "fun l -> case l of { C x t -> x }": "((L a) -> a)", treesText(200): "Int", functionsText(70): "Int",
	} {
		wantType(t, evalDatas+src, want, impl.IfDone)
	}
	for _, c := range typedPrograms() {
		wantType(t, evalDatas+c[1], c[0], impl.IfDone)
	}
}

func TestTypeOfEachCode(t *testing.T) {
	codes := map[int][]string{
		-1:          {"", "(", "1)", "fun x", "\xff", "05", "1 2 (", "case N of { }", strings.Repeat(" ", sourceBytes) + "1", strings.Repeat("put (", 24) + "1" + strings.Repeat(")", 24)},
		impl.IfData: {"data A = X | X; 1", "data A = X; data A = Y; 1", "data A = X B; nobody", "data A a = X A; 1 2", "data A = X Int; data B = Y (A Int); X"},
		impl.IfName: {"nobody", "Nobody", "fun x -> y", "let x = x in 1", "(let a = 1 in a) + a", "data A = X Int; X", "data A = X Int; X 1 2", "data A = X Int; case X 1 of { X -> 1 }", "data A = X Int Int; case X 1 2 of { X y y -> 1 }", "nobody + (1 2)", "fun x -> case x of { Nobody -> 1 }"},
		impl.IfType: {"1 2", "fun x -> x x", "(1 2) + nobody", "data A = X; X + 1", "data A = X; if X then 1 else 2", "if 1 then 2 else fun x -> x", "data A = X; case 1 of { X -> 1 }", "case 1 of { 1 -> 2; _ -> fun x -> x }", "rec f x = f in f", "let f = fun x -> x + 1 in f f", "data A = X; data B = Y A; Y 1", "fun f -> f 1 (f f)", "data P a b = P a b; let p = fun x -> P x x in p (p (p (p (p (p (p 1))))))", "data P a b = P a b; let a = fun x -> P x x in let b = fun x -> a (a x) in let c = fun x -> b (b x) in c (c 1)"},
		impl.IfMany: {"data P a b = P a b; let a = P 1 1 in let b = P a a in let c = P b b in let d = P c c in let e = P d d in let f = P e e in P f f", "data P a b = P a b; (1 + 1) + (let a = P 1 1 in let b = P a a in let c = P b b in let d = P c c in let e = P d d in let f = P e e in case P f f of { _ -> nobody })"},
		impl.IfDone: {"1", "data P a b = P a b; case (let p = fun x -> P x x in p (p (p (p (p 1))))) of { _ -> 1 }", "case 1 of { 1 -> 2 }"},
	}
	for code, texts := range codes {
		for _, src := range texts {
			if code == impl.IfDone {
				wantType(t, src, "Int", code)
			} else {
				wantType(t, src, "", code)
			}
		}
	}
	for code, parts := range faultyParts() {
		for _, part := range parts {
			src := buildDatas() + part + " + 1"
			if how := holdTypeOf(t, workpieceOf(src), src); (how == -1) != (code == impl.BdParse) || (how > impl.IfDone) != (code == impl.BdType) {
				t.Errorf("TypeOf of %s is %d", ending(src), how)
			}
		}
	}
}

// A case of a con for which there are 26 vars each time, and of patterns that have one.
func TestTypeOfManyVars(t *testing.T) {
	var vars []string
	for i := range 26 {
		vars = append(vars, "v"+strings.ToLower(letters(i)))
	}
	for more, want := range map[int]string{0: "Int", 22: "Int", 23: "Int", 24: "", 25: ""} {
		src := "data N " + strings.Join(vars, " ") + " = N; case N of { " + again("N -> 1", "; ", 75) + strings.Repeat("; _ -> 1", more) + " }"
		code := impl.IfDone
		if want == "" {
			code = impl.IfMany
		}
		wantType(t, src, want, code)
	}
	// Letters begin anew behind the last one.
	wantType(t, "data N "+strings.Join(vars, " ")+" = N; data P a b = P a b; P N (P N N)", "(P (N a b c d e f g h i j k l m n o p q r s t u v w x y z) (P (N a b c d e f g h i j k l m n o p q r s t u v w x y z) (N a b c d e f g h i j k l m n o p q r s t u v w x y z)))", impl.IfDone)
	wantType(t, "data N "+strings.Join(vars[:5], " ")+" = N; fun x -> N", "(a -> (N b c d e f))", impl.IfDone)
}

// A type may have as many Tys within it as may be, and none more.
func TestTypeOfLargeTypes(t *testing.T) {
	const datas = "data B a = B a; data P a b = P a b; "
	for _, size := range []int{1, 2, 3, 10, 99, tyMost - 3, tyMost - 2, tyMost - 1, tyMost, tyMost + 1, tyMost + 2, tyMost + 3} {
		// A function of anything is two Tys more.
		text := impl.Write(onlyMain(sized(size)))
		for ahead, more := range map[string]int{"": 0, "fun x -> ": 2} {
			want, code := shownBy(sizedTy(size)), impl.IfDone
			if more > 0 {
				want = "(a -> " + want + ")"
			}
			if size+more > tyMost {
				want, code = "", impl.IfMany
			}
			wantType(t, datas+ahead+text, want, code)
		}
	}
}
