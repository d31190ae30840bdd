package tests

import (
	"math"
	"slices"
	"strconv"
	"strings"
	"testing"

	"loop.example/g00323/impl"
)

const evalDatas = "data L a = N | C a (L a); data P a b = P a b; data T = L | B T T | U T; data I = I Int; "

func evalProg(src string) impl.Prog {
	p, bad := impl.Parse(evalDatas + src)
	if bad != -1 {
		panic("no program: " + src + " at " + strconv.Itoa(bad))
	}
	return p
}

// meansText is how it ended, the value's text, and, behind a `:`, what was told.
func meansText(r impl.Result) string {
	text := []string{"done ", "fuel", "stuck"}[r.Code]
	if r.Code == impl.EvDone {
		text += impl.ValueText(r.Value)
	}
	for i, n := range r.Out {
		text += []string{": ", " "}[min(i, 1)] + strconv.Itoa(n)
	}
	return text
}

// wantMeans holds a program with all fuel, with each number less that counts, and with more.
func wantMeans(t *testing.T, src, want string) {
	t.Helper()
	p := evalProg(src)
	_, begun := evalBy(p, fuelMost)
	fuels := append(fuelsUpTo(min(begun+2, 120)), begun-1, begun, begun+1, fuelMost-1, fuelMost, fuelMost+1, math.MaxInt, math.MinInt)
	if got := meansText(holdFuel(t, p, fuels...)); got != want {
		t.Errorf("%s means %q, not %q", src, got, want)
	}
}

func wantMeansOf(t *testing.T, means map[string]string) {
	t.Helper()
	for src, want := range means {
		wantMeans(t, src, want)
	}
}

func TestMeaningOfEachKindOfNode(t *testing.T) {
	wantMeansOf(t, map[string]string{
		"0": "done 0", "7": "done 7", "1073741823": "done 1073741823",
		"fun x -> x": "done fun", "fun x -> y": "done fun", "fun x -> 1 2": "done fun", "fun x -> put 1": "done fun",
		"(fun x -> x) 3": "done 3", "(fun x -> x + x) 3": "done 6", "(fun x -> fun y -> x - y) 5 3": "done 2", "(fun x -> 1) (fun x -> 1)": "done 1", "(fun x -> fun y -> x) 1": "done fun",
		"let x = 3 in x": "done 3", "let x = 3 in x * x": "done 9", "let f = fun x -> x + 1 in f (f 1)": "done 3", "let x = 3 in 4": "done 4",
		"rec f x = x in f 4": "done 4", "rec f x = x in f": "done fun", "rec f x = if x then x + f (x - 1) else 0 in f 4": "done 10", "rec f x = 1 2 in 3": "done 3", "rec f x = f in f 1": "done fun",
		"if 1 then 2 else 3": "done 2", "if 0 then 2 else 3": "done 3", "if 0 - 1 then 2 else 3": "done 2", "if 5 then 2 else 1 1": "done 2", "if 0 then x else 3": "done 3",
		"1 + 2": "done 3", "1 - 2": "done -1", "3 * 4": "done 12", "1 < 2": "done 1", "2 < 1": "done 0", "2 < 2": "done 0", "1 == 1": "done 1", "1 == 2": "done 0", "0 == 0": "done 1", "10 - 3 - 2": "done 5", "2 + 3 * 4": "done 14",
		"N": "done N", "C 1 N": "done (C 1 N)", "C (1 + 1) (C (fun x -> x) N)": "done (C 2 (C fun N))", "P 1 2": "done (P 1 2)", "P N (P N N)": "done (P N (P N N))", "I (0 - 1)": "done (I -1)",
		"put 4": "done 4: 4", "put (put 4 + 1)": "done 5: 4 5", "put 0": "done 0: 0", "put (0 - 9)": "done -9: -9", "C (put 1) (C (put 2) N)": "done (C 1 (C 2 N)): 1 2",
		"case 3 of { x -> x + 1 }": "done 4", "case 3 of { _ -> 1 }": "done 1", "case 3 of { 3 -> 1; 4 -> 2 }": "done 1", "case 4 of { 3 -> 1; 4 -> 2 }": "done 2", "case C 1 N of { N -> 0; C x t -> x }": "done 1", "case N of { C x t -> x; N -> 5 }": "done 5", "case C 1 (C 2 N) of { C a (C b N) -> a * 10 + b }": "done 12", "case fun x -> x of { f -> f 3 }": "done 3", "case P 1 2 of { P a b -> P b a }": "done (P 2 1)",
	})
}

// Alternatives are asked from the first one on.
func TestMeaningOfCases(t *testing.T) {
	wantMeansOf(t, map[string]string{
		"case 3 of { x -> 1; 3 -> 2 }": "done 1", "case 3 of { _ -> 1; x -> x }": "done 1", "case 3 of { 4 -> 1; _ -> 2; 3 -> 3 }": "done 2", "case C 1 N of { C 2 _ -> 1; C _ (C _ _) -> 2; C 1 N -> 3; _ -> 4 }": "done 3", "case C 1 (C 9 N) of { C 2 _ -> 1; C _ (C _ _) -> 2; C 1 N -> 3; _ -> 4 }": "done 2", "case C 3 N of { C 2 _ -> 1; C _ (C _ _) -> 2; C 1 N -> 3; _ -> 4 }": "done 4",
		// A pattern of another type fits nothing, and is not stuck; a con with other than its kids likewise.
		"case 1 of { N -> 1; _ -> 2 }": "done 2", "case N of { 0 -> 1; _ -> 2 }": "done 2", "case fun x -> x of { 0 -> 1; N -> 2; C _ _ -> 3; _ -> 4 }": "done 4", "case C 1 N of { C -> 1; C x -> 2; C x y z -> 3; C x y -> 4 }": "done 4", "case N of { Q -> 1; N x -> 2; Q x -> 3; x -> 4 }": "done 4", "case 0 of { P 0 0 -> 1; 0 -> 2 }": "done 2",
		"case 0 - 1 of { 1 -> 1; 1073741823 -> 2; x -> x }": "done -1", "case P N (C 1 N) of { P x x -> 0 }": "done 0",
		// Nothing is reckoned of those that are not taken.
		"case put 1 of { 0 -> put 2; 1 -> put 3; _ -> put 4 }": "done 3: 1 3", "case put 1 of { 0 -> x; y -> y; z -> q }": "done 1: 1",
	})
}

func TestMeaningOfNamesWithinEachOther(t *testing.T) {
	wantMeansOf(t, map[string]string{
		"let x = 1 in let x = 2 in x": "done 2", "let x = 1 in (let x = 2 in x) * 10 + x": "done 21", "let x = 1 in let x = x + 1 in x": "done 2", "let x = x in 1": "stuck", "let x = 1 in let y = x in let x = 3 in y": "done 1",
		"let x = 1 in let f = fun y -> x in let x = 2 in f 0": "done 1", "let x = 1 in let f = fun x -> x in f 5": "done 5", "let x = 1 in (fun x -> fun x -> x) 2 3": "done 3", "(fun x -> fun y -> fun x -> x * 10 + y) 1 2 3": "done 32", "let f = fun x -> fun y -> x in let g = f 1 in let h = f 2 in g 0 * 10 + h 0": "done 12",
		"rec f f = f in f 3": "done 3", "rec f f = f + 1 in f 3": "done 4", "rec f x = x in let f = 2 in f": "done 2", "rec f x = x in x": "stuck", "let x = 7 in rec f x = x in x": "done 7", "let f = 1 in rec f x = if x then f 0 else 5 in f 2": "done 5", "rec f x = if x then (let f = fun y -> 9 in f x) else 1 in f 3": "done 9", "rec f x = fun y -> if x then f 0 y else y in f 3 4": "done 4", "rec f x = x + 1 in let g = f in rec f x = x * 2 in g 5 * 100 + f 5": "done 610", "rec f x = (rec g y = if y then f 0 else 8 in if x then g x else 6) in f 2": "done 6", "rec f x = let x = x + 1 in x in f 1": "done 2",
		"let x = 1 in case 2 of { x -> x }": "done 2", "let x = 1 in (case 2 of { x -> x }) * 10 + x": "done 21", "let x = 1 in case P 2 3 of { P y x -> y * 10 + x }": "done 23", "let x = 1 in case P 2 3 of { P y z -> x }": "done 1", "case P 1 2 of { P x y -> case P 3 4 of { P y z -> x * 100 + y * 10 + z } }": "done 134", "let x = 5 in case P 1 2 of { P 2 x -> 0; P y _ -> x }": "done 5", "case 1 of { x -> fun y -> x }": "done fun", "(case 1 of { x -> fun y -> x + y }) 2": "done 3", "(case 1 of { y -> y }) + y": "stuck",
		// Where a pattern binds a name twice, the one further to the right is the innermost.
		"case P 1 2 of { P x x -> x }": "done 2", "case P (P 1 2) 3 of { P (P x y) x -> x * 10 + y }": "done 32", "case P 3 (P 1 2) of { P x (P x y) -> x * 10 + y }": "done 12",
	})
}

func TestMeaningOfWhatIsAppliedToItself(t *testing.T) {
	wantMeansOf(t, map[string]string{
		"(fun x -> x x) (fun x -> x x)": "fuel", "(fun x -> x x) (fun x -> x)": "done fun", "(fun x -> x x) (fun x -> 3)": "done 3", "let f = fun s -> fun n -> if n then n * s s (n - 1) else 1 in f f 5": "done 120", "let y = fun f -> (fun x -> f (fun v -> x x v)) (fun x -> f (fun v -> x x v)) in y (fun s -> fun n -> if n then n + s (n - 1) else 0) 10": "done 55", "(fun x -> x x) 1": "stuck",
		"rec f x = f x in f 1": "fuel", "rec f x = f in f f f f": "done fun", "rec f x = if x < 2 then x else f (x - 1) + f (x - 2) in f 10": "done 55", "rec f x = f (put x + 1) in if 0 then f 0 else 4": "done 4", "rec e x = if x then (rec o y = if y then e (y - 1) else 0 in o (x - 1)) else 1 in e 8 * 10 + e 7": "done 10",
		"rec m l = case l of { N -> 0; C x t -> x + m t } in m (C 1 (C 2 (C 3 N)))": "done 6", "rec r a = fun l -> case l of { N -> a; C x t -> r (C x a) t } in r N (C 1 (C 2 (C 3 N)))": "done (C 3 (C 2 (C 1 N)))",
		"rec m f = fun l -> case l of { N -> N; C x t -> C (f x) (m f t) } in m (fun x -> put (x * x)) (C 1 (C 2 (C 3 N)))": "done (C 1 (C 4 (C 9 N))): 1 4 9",
	})
}

// What is told shows which kid is begun first.
func TestWhichKidIsBegunFirst(t *testing.T) {
	for _, sign := range []string{"+", "-", "*", "<", "=="} {
		wantMeans(t, "let q = put 1 "+sign+" put 2 in 0", "done 0: 1 2")
		wantMeans(t, "let q = (put 1 "+sign+" put 2) "+sign+" (put 3 "+sign+" put 4) in 0", "done 0: 1 2 3 4")
		wantMeans(t, "(let q = put 1 in fun x -> x) "+sign+" put 2", "stuck: 1")
		wantMeans(t, "(let q = put 1 in N) "+sign+" put 2", "stuck: 1")
		wantMeans(t, "C 1 N "+sign+" put 2", "stuck")
		wantMeans(t, "N "+sign+" x", "stuck")
		wantMeans(t, "N "+sign+" (rec f x = f x in f 1)", "stuck")
		wantMeans(t, "put 1 "+sign+" (let q = put 2 in N)", "stuck: 1 2")
		wantMeans(t, "put 1 "+sign+" (rec f x = f x in f 1)", "fuel: 1")
	}
	wantMeansOf(t, map[string]string{
		"(put 1) (put 2)": "stuck: 1 2", "(let q = put 1 in fun x -> put 3) (put 2)": "done 3: 1 2 3", "(fun x -> put x) (put 2) (put 3)": "stuck: 2 2 3", "(fun x -> fun y -> put x + y) (put 2) (put 3)": "done 5: 2 3 2", "N (put 1)": "stuck: 1", "x (put 1)": "stuck", "(put 1) x": "stuck: 1", "1 (rec f x = f x in f 1)": "fuel",
		"let x = put 1 in put 2": "done 2: 1 2", "let x = put 1 in let y = put 2 in put (x + y)": "done 3: 1 2 3", "rec f x = put 1 in put 2": "done 2: 2", "rec f x = put x in f (put 5)": "done 5: 5 5",
		"if put 1 then put 2 else put 3": "done 2: 1 2", "if put 0 then put 2 else put 3": "done 3: 0 3",
		"C (put 1) (C (put 2) (C (put 3) N))": "done (C 1 (C 2 (C 3 N))): 1 2 3", "P (put 1) (put 2)": "done (P 1 2): 1 2", "C (put 1)": "stuck: 1", "C (put 1) (put 2) (put 3)": "stuck: 1 2 3", "N (put 1) (put 2)": "stuck: 1 2", "Q (put 1)": "stuck: 1", "Q (put 1) x (put 2)": "stuck: 1", "P (put 1) (P (put 2))": "stuck: 1 2",
		"case put 1 of { x -> put 2 }": "done 2: 1 2", "case put 1 of { 2 -> put 2 }": "stuck: 1", "put (put 1 + put 2)": "done 3: 1 2 3", "put (let q = put 1 in N)": "stuck: 1",
	})
}

func TestEachWayToBeStuck(t *testing.T) {
	for _, no := range []string{"N", "C 1 N", "P 1 2", "fun x -> x", "rec f x = x in f"} {
		wantMeans(t, "put ("+no+")", "stuck")
		wantMeans(t, "if ("+no+") then 1 else 2", "stuck")
		for _, sign := range []string{"+", "-", "*", "<", "=="} {
			wantMeans(t, "1 "+sign+" ("+no+")", "stuck")
			wantMeans(t, "("+no+") "+sign+" 1", "stuck")
			wantMeans(t, "("+no+") "+sign+" ("+no+")", "stuck")
		}
	}
	for _, no := range []string{"0", "1", "N", "C 1 N", "P (fun x -> x) 1", "1 + 1"} {
		wantMeans(t, "("+no+") 1", "stuck")
		wantMeans(t, "("+no+") (fun x -> x)", "stuck")
		wantMeans(t, "let f = ("+no+") in f 1", "stuck")
	}
	wantMeansOf(t, map[string]string{
		"x": "stuck", "fun x -> y": "done fun", "(fun x -> y) 1": "stuck", "let x = y in 1": "stuck", "let x = 1 in y": "stuck", "case 1 of { x -> y }": "stuck", "C x N": "stuck", "if x then 1 else 2": "stuck", "put x": "stuck", "case x of { _ -> 1 }": "stuck", "f 1": "stuck", "x + 1": "stuck", "1 + x": "stuck",
		"C": "stuck", "C 1": "stuck", "C 1 N N": "stuck", "N 1": "stuck", "N N": "stuck", "P 1": "stuck", "I": "stuck", "I 1 1": "stuck", "Q": "stuck", "Q 1": "stuck", "P 1 (C 1)": "stuck", "fun x -> C": "done fun", "(fun x -> C) 1": "stuck", "B": "stuck",
		"case 1 of { 0 -> 1 }": "stuck", "case 1 of { 0 -> 1; 2 -> 2 }": "stuck", "case N of { C _ _ -> 1 }": "stuck", "case C 1 N of { N -> 1; C 2 _ -> 2 }": "stuck", "case fun x -> x of { 0 -> 1 }": "stuck", "case N of { Q -> 1 }": "stuck", "case C 1 N of { C x -> 1 }": "stuck",
	})
}

// Behind what is stuck nothing is told, and nothing else goes wrong.
func TestWhatIsStuckStaysSo(t *testing.T) {
	for _, stuck := range []string{"1 1", "x", "C 1", "case 1 of { 0 -> 0 }", "put N", "N + 1"} {
		for _, about := range []string{"?", "put (?)", "(?) + put 9", "(?) 1", "let a = put 5 in (?)", "let a = (?) in put 6", "C (put 1) (?)", "C (?) (put 1)", "if (?) then put 1 else put 2", "case (?) of { _ -> put 3 }", "(fun a -> put 4) (?)", "rec g a = (?) in g (put 7)", "Q (?) (put 1)", "case put 8 of { 9 -> 1; _ -> (?) }"} {
			src := strings.ReplaceAll(about, "?", stuck)
			if r := holdFuel(t, evalProg(src), fuelsUpTo(25)...); r.Code != impl.EvStuck || slices.Contains(r.Out, 9) || slices.Contains(r.Out, 6) {
				t.Errorf("%s is %s", src, toldResult(r))
			}
		}
	}
}

func TestNumbersThatGoRound(t *testing.T) {
	wantMeansOf(t, map[string]string{
		"1073741823 + 1": "done -1073741824", "1073741823 + 1073741823": "done -2", "0 - 1073741823 - 1": "done -1073741824", "0 - 1073741823 - 2": "done 1073741823", "1073741823 * 1073741823": "done 1", "1073741823 * 2": "done -2", "65536 * 65536": "done 0", "32768 * 32768": "done -1073741824", "46341 * 46341": "done 4633", "(0 - 1073741823 - 1) * (0 - 1073741823 - 1)": "done 0", "(0 - 1073741823 - 1) * 1073741823": "done -1073741824", "0 - (0 - 1073741823 - 1)": "done -1073741824", "put (1073741823 + 1)": "done -1073741824: -1073741824",
		"1073741823 + 1 < 0": "done 1", "1073741823 < 1073741823 + 1": "done 0", "(0 - 5) < 0 - 4": "done 1", "0 - 4 < 0 - 5": "done 0", "1073741823 + 1 == 0 - 1073741823 - 1": "done 1", "if 65536 * 65536 then 1 else 2": "done 2", "case 1073741823 * 1073741823 of { 1 -> 5; _ -> 6 }": "done 5",
		"rec f n = if n then 3 * f (n - 1) else 1 in f 40": "done " + strconv.Itoa(power(3, 40)), "rec f n = if n then (0 - 7) * f (n - 1) else 1 in f 33": "done " + strconv.Itoa(power(-7, 33)),
	})
}

// power goes round at each step.
func power(n, times int) int {
	p := 1
	for range times {
		p = gone64(p * n)
	}
	return p
}

func TestReckoningsOfManyNumbers(t *testing.T) {
	var numbers []int
	for _, n := range []int{0, 1, 2, 3, 7, 1000, 32767, 32768, 46340, 46341, 65536, 1 << 29, greatest / 2, greatest - 1, greatest} {
		numbers = append(numbers, n, -n, -n-1)
	}
	text := func(n int) string {
		if n < 0 {
			return "(0 - " + strconv.Itoa(-(n + 1)) + " - 1)"
		}
		return strconv.Itoa(n)
	}
	for _, a := range numbers {
		for _, b := range numbers {
			for op, sign := range map[int]string{impl.NdAdd: "+", impl.NdSub: "-", impl.NdMul: "*", impl.NdLess: "<", impl.NdSame: "=="} {
				src := text(a) + sign + text(b)
				p, _ := impl.Parse(src)
				if r := impl.Eval(p, 11); r.Code != impl.EvDone || toldValue(r.Value) != toldValue(intValue(reckonedBy(op, a, b))) || !impl.WordOk(r.Value.N) {
					t.Fatalf("%s is %s", src, toldResult(r))
				}
			}
		}
	}
}
