package tests

import (
	"math"
	"slices"
	"strconv"
	"strings"
	"testing"

	"loop.example/g00323/impl"
)

func TestNumbersOfChapter6(t *testing.T) {
	if impl.MaxCons != consMost || impl.DtDone != 0 || impl.DtTwice != 1 || impl.DtName != 2 || impl.DtMany != 3 {
		t.Error("a constant is another one")
	}
}

func wantConOf(t *testing.T, list []impl.Data, name string, data, con, tag int) {
	t.Helper()
	gotData, gotCon := impl.ConOf(list, name)
	if gotData != data || gotCon != con {
		t.Errorf("%s: ConOf %.40q is %d and %d, not %d and %d", short(toldDatas(list)), name, gotData, gotCon, data, con)
	}
	if got := impl.ConTag(list, name); got != tag {
		t.Errorf("%s: ConTag %.40q is %d, not %d", short(toldDatas(list)), name, got, tag)
	}
}

func wantTagCon(t *testing.T, list []impl.Data, tag, data, con int) {
	t.Helper()
	if gotData, gotCon := impl.TagCon(list, tag); gotData != data || gotCon != con {
		t.Errorf("%s: TagCon %d is %d and %d, not %d and %d", short(toldDatas(list)), tag, gotData, gotCon, data, con)
	}
}

// oddTags are tags that none of so many cons has, near ones and far ones.
func oddTags(many int) []int {
	return []int{-1, -2, -many, -many - 1, many, many + 1, 2*many + 1, consMost + many, 1 << 32, 1<<32 + many, -1 << 32, math.MaxInt, math.MaxInt - many, math.MinInt, math.MinInt + many}
}

// holdTags holds promise 6 of each con of the datas, and that nothing else has a tag.
func holdTags(t *testing.T, list []impl.Data) {
	t.Helper()
	seats := seatsOf(list)
	for tag, s := range seats {
		wantTagCon(t, list, tag, s.data, s.con)
		first := tagBy(list, s.name)
		wantConOf(t, list, s.name, seats[first].data, seats[first].con, first)
		data, con := impl.ConOf(list, s.name)
		wantTagCon(t, list, impl.ConTag(list, s.name), data, con)
	}
	for _, tag := range oddTags(len(seats)) {
		if tag < 0 || tag >= len(seats) {
			wantTagCon(t, list, tag, -1, -1)
		}
	}
	names := []string{"", " ", "Q", "q", "Int", "\x00", "\xff"}
	for _, s := range seats {
		names = append(names, s.name+"s", s.name+" ", s.name+"\x00", " "+s.name, strings.ToLower(s.name), s.name[:len(s.name)/2])
	}
	for _, d := range list {
		names = append(names, d.Name)
	}
	for _, name := range names {
		if tagBy(list, name) < 0 {
			wantConOf(t, list, name, -1, -1, -1)
		}
	}
}

func TestEachTagIsThatOfItsCon(t *testing.T) {
	list := datasOf("data A = X | Y Int; data B a = Z a (B a); data C = U | V (Int -> C) | C;")
	for tag, want := range []seat{{0, 0, "X"}, {0, 1, "Y"}, {1, 0, "Z"}, {2, 0, "U"}, {2, 1, "V"}, {2, 2, "C"}} {
		wantConOf(t, list, want.name, want.data, want.con, tag)
		wantTagCon(t, list, tag, want.data, want.con)
	}
	for _, name := range []string{"", "A", "B", "a", "x", "XX", "Xs", "X ", " X", "Int", "Q", "XY", "X\x00", strings.Repeat("X", 5000)} {
		wantConOf(t, list, name, -1, -1, -1)
	}
	for _, tag := range []int{-1, -2, -6, 6, 7, 60, math.MinInt, math.MaxInt, 1 << 32, 1<<32 + 1, -1 << 32} {
		wantTagCon(t, list, tag, -1, -1)
	}
	for _, text := range []string{"data A = X;", "data A = A;", "data A = X | Y | Z;", "data A = X; data B = Y; data C = Z;", "data A = B; data B = A;", "data A = Abcdefgh | Abcdefg; data B = Abcdefgi;", "data L a = N | C a (L a); data P a b = P a b; data U = U | V | W | X | Y | Z;"} {
		holdTags(t, datasOf(text))
	}
}

func TestTagsOfNoDatas(t *testing.T) {
	for _, list := range [][]impl.Data{nil, {}, {{}}, {oneData("A", 0)}, {oneData("A", 2), oneData("B", 0), {}}, roomBehind[impl.Data](nil, oneData("A", 0, oneCon("X"))), {oneData("A", 0, roomBehind[impl.Con](nil, oneCon("X"))...)}} {
		for _, name := range []string{"", "A", "X", "Int"} {
			wantConOf(t, list, name, -1, -1, -1)
		}
		for _, tag := range []int{-1, 0, 1, 2, consMost, math.MinInt, math.MaxInt} {
			wantTagCon(t, list, tag, -1, -1)
		}
		if got := impl.CheckDatas(list); got != impl.DtDone {
			t.Errorf("CheckDatas(%s) is %d", toldDatas(list), got)
		}
	}
}

// Datas without cons have numbers, and no tags.
func TestTagsAmongDatasWithoutCons(t *testing.T) {
	x, y, z := oneCon("X", intTy()), oneCon("Y"), oneCon("Z")
	list := []impl.Data{oneData("A", 0), oneData("B", 1, x, y), oneData("C", 0), oneData("D", 0), oneData("E", 0, z), oneData("F", 2)}
	wantConOf(t, list, "X", 1, 0, 0)
	wantConOf(t, list, "Y", 1, 1, 1)
	wantConOf(t, list, "Z", 4, 0, 2)
	holdTags(t, list)
	wantCheck(t, list, impl.DtDone)
	for at := range 4 {
		list := slices.Insert([]impl.Data{oneData("B", 1, x), oneData("C", 0, y), oneData("D", 0, z)}, at, oneData("A", 0), oneData("E", 0))
		holdTags(t, list)
	}
}

// Of two cons of one name the first one is told by the name; by its tag each is.
func TestTagsOfConsOfOneName(t *testing.T) {
	list := datasOf("data A = X | Y | X; data B = Y | Z | X; data C = Z | Z;")
	wantConOf(t, list, "X", 0, 0, 0)
	wantConOf(t, list, "Y", 0, 1, 1)
	wantConOf(t, list, "Z", 1, 1, 4)
	for tag, want := range [][2]int{{0, 0}, {0, 1}, {0, 2}, {1, 0}, {1, 1}, {1, 2}, {2, 0}, {2, 1}} {
		wantTagCon(t, list, tag, want[0], want[1])
	}
	holdTags(t, list)
	list = datasOf("data A = X; data A = Y; data A = X | Y | Z;")
	wantConOf(t, list, "Y", 1, 0, 1)
	wantConOf(t, list, "Z", 2, 2, 4)
	holdTags(t, list)
	list = []impl.Data{oneData("", -3, oneCon(""), oneCon("x y")), oneData("", 99, oneCon("\xff\x00"), oneCon(""), oneCon("Int"))}
	wantConOf(t, list, "", 0, 0, 0)
	wantConOf(t, list, "x y", 0, 1, 1)
	wantConOf(t, list, "\xff\x00", 1, 0, 2)
	wantConOf(t, list, "Int", 1, 2, 4)
	holdTags(t, list)
}

func TestTagsOfMoreConsThanMayBe(t *testing.T) {
	for _, sizes := range [][]int{{consMost}, {consMost + 1}, {500}, {1, consMost, 0, 7, 300}} {
		var list []impl.Data
		for i, size := range sizes {
			list = append(list, oneData("D"+strconv.Itoa(i), 0, consNamed(size, "C"+strconv.Itoa(i)+"x")...))
		}
		holdTags(t, list)
	}
}

func wantCheck(t *testing.T, list []impl.Data, want int) {
	t.Helper()
	if by := checkBy(list); by != want {
		t.Errorf("the second telling of %s is %d, not %d", short(toldDatas(list)), by, want)
	}
	if got := impl.CheckDatas(list); got != want {
		t.Errorf("CheckDatas(%s) is %d, not %d", short(toldDatas(list)), got, want)
	}
}

func TestCheckDatas(t *testing.T) {
	for text, want := range map[string]int{
		"": impl.DtDone, "data A = X;": impl.DtDone, "data A = A;": impl.DtDone, "data A = B; data B = A;": impl.DtDone, "data A = X A;": impl.DtDone, "data A a = A;": impl.DtDone,
		"data L a = N | C a (L a);": impl.DtDone, "data L a = C (L (L a -> Int));": impl.DtDone, "data A = X B; data B = Y A;": impl.DtDone, "data A = X (P Int A); data P a b = P a b;": impl.DtDone,
		"data A a b c d e f g h i j k l m n o p q r s t u v w x y z = X z; data B = Y (A B B B B B B B B B B B B B B B B B B B B B B B B B B);": impl.DtDone,

		"data A = X; data A = Y;": impl.DtTwice, "data A = X; data B = Y; data A = Z;": impl.DtTwice, "data B = Y; data A = X; data A a = Z a;": impl.DtTwice,
		"data A = X | X;": impl.DtTwice, "data A = X | Y | X Int;": impl.DtTwice, "data A = X; data B = X;": impl.DtTwice, "data A = Y | X; data B = Z; data C = U | X;": impl.DtTwice, "data A = X; data A = X;": impl.DtTwice,

		"data A = X Q;": impl.DtName, "data A = X Int Q;": impl.DtName, "data A = X | Y Q;": impl.DtName, "data A = X; data B = Y Q;": impl.DtName, "data A = X (Q Int);": impl.DtName, "data A = X X;": impl.DtName,
		"data A = X (Int -> Q);": impl.DtName, "data A = X (Q -> Int);": impl.DtName, "data L a = C (L Q);": impl.DtName, "data L a = C (L (L (L (Int -> Q))));": impl.DtName, "data A = X Aa;": impl.DtName,

		"data L a = C L;": impl.DtMany, "data L a = C (L a a);": impl.DtMany, "data A = X (A Int);": impl.DtMany, "data P a b = X (P a);": impl.DtMany, "data P a b = X P;": impl.DtMany, "data P a b = X (P a b a);": impl.DtMany,
		"data L a = N; data A = X (Int -> L);": impl.DtMany, "data A = X (L -> Int); data L a = N;": impl.DtMany, "data L a = C (L (L L));": impl.DtMany, "data L a = C (L (L (L a a)));": impl.DtMany, "data A = X (A -> A Int);": impl.DtMany,
	} {
		wantCheck(t, datasOf(text), want)
	}
}

// Names are one where all of their bytes are.
func TestNamesThatAreNearlyOne(t *testing.T) {
	near := []string{"", "A", "a", "AA", "Aa", "A ", " A", "A\x00", "B", "\xff", "\xff\xff", strings.Repeat("A", 4000), strings.Repeat("A", 4001)}
	var datas []impl.Data
	for i, name := range near {
		datas = append(datas, oneData(name, i, oneCon(name)))
	}
	wantCheck(t, datas, impl.DtDone)
	for i, one := range near {
		for j, other := range near {
			want := impl.DtDone
			if i == j {
				want = impl.DtTwice
			}
			wantCheck(t, []impl.Data{oneData(one, 0), oneData(other, 1)}, want)
			wantCheck(t, []impl.Data{oneData("D", 0, oneCon(one), oneCon(other))}, want)
			wantCheck(t, []impl.Data{oneData("D", 0, oneCon(one)), oneData("E", 0, oneCon("F"), oneCon(other))}, want)
			if i != j {
				want = impl.DtName
			} else {
				want = impl.DtDone
			}
			wantCheck(t, []impl.Data{oneData(one, 0, oneCon("X", dataTy(other)))}, want)
		}
	}
}

// rightAbout are types with t at each place of a kid, and deeper; all that is about it is right, where L has one var and P two.
func rightAbout(t impl.Ty) []impl.Ty {
	i, a := intTy(), varTy(0)
	return []impl.Ty{t, funTy(t, i), funTy(i, t), dataTy("L", t), dataTy("P", t, i), dataTy("P", a, t),
		funTy(i, funTy(dataTy("P", a, dataTy("L", t)), i)), dataTy("L", dataTy("L", dataTy("L", t))), dataTy("P", dataTy("P", i, a), dataTy("P", a, funTy(dataTy("L", a), t)))}
}

// datasWith are right but for t, which is within the types of some con: the first, one between or the last; of the first data, one between or the last.
func datasWith(t impl.Ty) [][]impl.Data {
	i := intTy()
	var lists [][]impl.Data
	for n, args := range [][]impl.Ty{{t}, {t, i, i}, {i, t, i}, {i, dataTy("U"), t}} {
		x, y, z := oneCon("X"), oneCon("Y", args...), oneCon("Z", dataTy("P", i, i))
		mine := oneData("M", 2, [][]impl.Con{{y}, {y, x, z}, {x, y, z}, {x, z, y}}[n]...)
		others := datasOf("data L a = N | C a (L a); data P a b = P a b; data U = U | T;")
		for at := range len(others) + 1 {
			lists = append(lists, slices.Insert(slices.Clone(others), at, mine))
		}
	}
	return lists
}

func wantCheckOfTy(t *testing.T, ty impl.Ty, want int) {
	t.Helper()
	for _, more := range rightAbout(ty) {
		for _, list := range datasWith(more) {
			wantCheck(t, list, want)
		}
	}
}

func TestCheckDatasOfTypes(t *testing.T) {
	i := intTy()
	for _, ty := range []impl.Ty{i, varTy(0), varTy(1), dataTy("U"), dataTy("L", i), dataTy("P", i, i), dataTy("M", i, varTy(1)), dataTy("L", dataTy("U")), dataTy("P", dataTy("L", i), funTy(i, i)), {Op: impl.TyData, S: "U", Kids: []impl.Ty{}}} {
		wantCheckOfTy(t, ty, impl.DtDone)
	}
	for _, name := range []string{"Q", "Int", "X", "Y", "N", "C", "T", "l", "LL", "Ll", "L ", " L", "", "\x00"} {
		for _, kids := range [][]impl.Ty{nil, {i}, {i, i}, {dataTy("L", i), i, i}} {
			wantCheckOfTy(t, dataTy(name, kids...), impl.DtName)
		}
	}
	for _, name := range []string{"L", "P", "U", "M"} {
		right := map[string]int{"L": 1, "P": 2, "U": 0, "M": 2}[name]
		for many := range 6 {
			want := impl.DtMany
			if many == right {
				want = impl.DtDone
			}
			wantCheckOfTy(t, dataTy(name, slices.Repeat([]impl.Ty{dataTy("U")}, many)...), want)
			wantCheckOfTy(t, dataTy(name, slices.Repeat([]impl.Ty{varTy(0)}, many)...), want)
		}
	}
}

func TestCheckDatasOfManyCons(t *testing.T) {
	for many := range 2*consMost + 3 {
		want := impl.DtDone
		if many > consMost {
			want = impl.DtMany
		}
		cons := consNamed(many, "C")
		wantCheck(t, []impl.Data{oneData("A", 1, cons...)}, want)
		wantCheck(t, []impl.Data{oneData("B", 0), oneData("A", 0, cons[:many/3]...), oneData("C", 0), oneData("D", 3, cons[many/3:]...), oneData("E", 0)}, want)
		var each []impl.Data
		for i, c := range cons {
			c.Args = []impl.Ty{intTy(), dataTy("D0"), varTy(7)}
			each = append(each, oneData("D"+strconv.Itoa(i), 0, c))
		}
		wantCheck(t, each, want)
		var wide []impl.Data
		for i := range 2 * consMost {
			wide = append(wide, oneData("D"+strconv.Itoa(i), i))
		}
		wide[many/3].Cons = cons
		wantCheck(t, wide, want)
	}
	args := slices.Repeat([]impl.Ty{dataTy("A")}, 5*consMost)
	wantCheck(t, []impl.Data{oneData("A", 0, oneCon("X", args...), oneCon("Y", args...))}, impl.DtDone)
}

// A fault is something for which datas are refused: datas, ahead of which and behind which others may stand.
type fault struct {
	code  int
	datas []impl.Data
}

func faults() []fault {
	one := func(name string, cons ...impl.Con) impl.Data { return oneData(name, 0, cons...) }
	i := intTy()
	return []fault{
		{impl.DtTwice, []impl.Data{one("Same"), one("Same")}},
		{impl.DtTwice, []impl.Data{one("In", oneCon("Con"), oneCon("Con"))}},
		{impl.DtTwice, []impl.Data{one("First", oneCon("Two")), one("Second", oneCon("Two"))}},
		{impl.DtName, []impl.Data{one("Root", oneCon("Rx", dataTy("Q")))}},
		{impl.DtName, []impl.Data{one("Within", oneCon("Wx", i, funTy(i, dataTy("Nobody", i))))}},
		{impl.DtMany, []impl.Data{one("More", oneCon("Mx", dataTy("More", i)))}},
		{impl.DtMany, []impl.Data{oneData("Fewer", 2, oneCon("Fx"), oneCon("Fy", funTy(dataTy("Fewer", i), i)))}},
		{impl.DtMany, []impl.Data{one("Great", consNamed(consMost+1, "G")...)}},
	}
}

// Of several faults the one that is named first counts, wherever it stands.
func TestWhichReasonCounts(t *testing.T) {
	all := faults()
	fine := datasOf("data L a = N | C a (L a);")
	for chosen := range 1 << len(all) {
		var list, back []impl.Data
		want := impl.DtDone
		for i, f := range all {
			if chosen>>i&1 == 0 {
				continue
			}
			list, back = slices.Concat(list, f.datas), slices.Concat(f.datas, back)
			if want == impl.DtDone {
				want = f.code
			}
		}
		wantCheck(t, list, want)
		wantCheck(t, back, want)
		wantCheck(t, slices.Concat(fine, list), want)
		wantCheck(t, slices.Concat(back, fine), want)
	}
	for _, text := range []string{"data A = X (A Q);", "data A = X (A Int) Q;", "data A = X (A Int); data B = Y Q;", "data L a = C (L Q Q);", "data L a = C (Q L);", "data L a = C (L (Q L));", "data L a = C (L -> Q);", "data L a = C L; data B = Y | Z (Int -> Q);"} {
		wantCheck(t, datasOf(text), impl.DtName)
	}
	for _, text := range []string{"data A = X Q | X;", "data A = X Q; data A = Y;", "data A = X (A Int) Q; data B = X;", "data A = X (A Int) | Y | Y;", "data A = X A; data A a = Y A;", "data A a = X A; data A = Y A;", "data A = X; data B = Y Q; data C = X L;"} {
		wantCheck(t, datasOf(text), impl.DtTwice)
	}
}

// What is not tidy is looked at like all else: names of any bytes, any number of vars, and TyDatas within whatever has kids.
func TestCheckDatasOfWhatIsNotTidy(t *testing.T) {
	i := intTy()
	for _, name := range []string{"", "Int", "x", "let", "a b", "\x00", "\xff", "Abcdefghijkl"} {
		wantCheck(t, []impl.Data{oneData(name, 1, oneCon(name, dataTy(name, i)))}, impl.DtDone)
		wantCheck(t, []impl.Data{oneData(name, 1, oneCon(name, dataTy(name)))}, impl.DtMany)
		wantCheck(t, []impl.Data{oneData(name+"x", 1, oneCon(name, dataTy(name)))}, impl.DtName)
		wantCheck(t, []impl.Data{oneData(name, 1), oneData("Q", 1), oneData(name, 1)}, impl.DtTwice)
		wantCheck(t, []impl.Data{oneData("Q", 1, oneCon(name)), oneData("R", 1, oneCon(name))}, impl.DtTwice)
	}
	for _, vars := range []int{-1, -2, 27, 100, 1 << 32, -1 << 32, math.MaxInt, math.MinInt} {
		wantCheck(t, []impl.Data{oneData("A", vars, oneCon("X", varTy(99), varTy(-1)))}, impl.DtDone)
		for many := range 4 {
			wantCheck(t, []impl.Data{oneData("A", vars, oneCon("X", dataTy("A", slices.Repeat([]impl.Ty{i}, many)...)))}, impl.DtMany)
		}
	}
	for _, vars := range []int{27, 100, 5000} {
		wantCheck(t, []impl.Data{oneData("A", vars, oneCon("X", dataTy("A", slices.Repeat([]impl.Ty{i}, vars)...)))}, impl.DtDone)
		wantCheck(t, []impl.Data{oneData("A", vars, oneCon("X", dataTy("A", slices.Repeat([]impl.Ty{i}, vars+1)...)))}, impl.DtMany)
	}
	for _, op := range []int{-1, 0, impl.TyInt, impl.TyVar, impl.TyFun, 5, 99, math.MaxInt, math.MinInt} {
		odd := func(kids ...impl.Ty) impl.Ty { return impl.Ty{Op: op, N: -7, S: "Nobody", Kids: kids} }
		for _, kids := range [][]impl.Ty{nil, {i}, {i, i, i}, {{}}, {dataTy("U")}, {i, dataTy("L", i)}, {odd(dataTy("U"), odd())}} {
			wantCheckOfTy(t, odd(kids...), impl.DtDone)
		}
		for _, kids := range [][]impl.Ty{{dataTy("Q")}, {dataTy("L"), i, dataTy("Q", i)}, {odd(i, odd(dataTy("Nobody")))}} {
			wantCheckOfTy(t, odd(kids...), impl.DtName)
		}
		for _, kids := range [][]impl.Ty{{dataTy("L")}, {i, i, dataTy("U", i)}, {odd(i, odd(dataTy("P", i)))}} {
			wantCheckOfTy(t, odd(kids...), impl.DtMany)
		}
	}
	for _, n := range []int{1, -1, math.MinInt} {
		wantCheckOfTy(t, impl.Ty{Op: impl.TyData, N: n, S: "L", Kids: []impl.Ty{{}}}, impl.DtDone)
		wantCheckOfTy(t, impl.Ty{Op: impl.TyData, N: n, S: "L"}, impl.DtMany)
		wantCheckOfTy(t, impl.Ty{Op: impl.TyData, N: n, S: "Q"}, impl.DtName)
	}
	wantCheck(t, []impl.Data{{}, {}}, impl.DtTwice)
	wantCheck(t, []impl.Data{{Cons: []impl.Con{{}}}}, impl.DtDone)
	wantCheck(t, []impl.Data{{Cons: []impl.Con{{}, {}}}}, impl.DtTwice)
	wantCheck(t, []impl.Data{{Cons: []impl.Con{{Args: []impl.Ty{{}, {Op: impl.TyData}}}}}}, impl.DtDone)
}

func quickCheck(t *testing.T, what string, want int, types ...impl.Ty) {
	t.Helper()
	list := append(datasOf("data L a = N; data U = U;"), oneData("M", 0, oneCon("X"), oneCon("Y", types...)))
	if got := impl.CheckDatas(list); got != want {
		t.Errorf("%s: CheckDatas is %d, not %d", what, got, want)
	}
}

func TestCheckDatasOfGreatTypes(t *testing.T) {
	const many = 300000
	for n, leaf := range []impl.Ty{dataTy("U"), dataTy("Q"), dataTy("L")} {
		want := []int{impl.DtDone, impl.DtName, impl.DtMany}[n]
		for i, ty := range greatTys(many, leaf)[:3] {
			quickCheck(t, "great type "+strconv.Itoa(i), want, ty)
			quickCheck(t, "great type "+strconv.Itoa(i)+" behind others", want, intTy(), dataTy("U"), ty)
		}
		quickCheck(t, "many types", want, slices.Repeat([]impl.Ty{leaf}, many)...)
	}
	wide := greatTys(many, dataTy("U"))[3]
	quickCheck(t, "a wide type that is named by nothing", impl.DtName, wide)
	for vars, want := range map[int]int{many - 1: impl.DtMany, many: impl.DtDone, many + 1: impl.DtMany} {
		if got := impl.CheckDatas([]impl.Data{oneData("U", 0), oneData("W", vars, oneCon("X", wide))}); got != want {
			t.Errorf("a wide type, of a data with %d vars: CheckDatas is %d, not %d", vars, got, want)
		}
	}
}

// A type that is held again and again is many in a tree; the answer comes all the same.
func TestCheckDatasOfTypesThatAreShared(t *testing.T) {
	for n, leaf := range []impl.Ty{dataTy("U"), dataTy("Q"), dataTy("U", intTy())} {
		want := []int{impl.DtDone, impl.DtName, impl.DtMany}[n]
		twice := leaf
		for range 200 {
			twice = funTy(twice, twice)
		}
		quickCheck(t, "a type that is doubled", want, twice, intTy())
		// Each list is a piece of the one about it, at first a shorter one from the same place on.
		kids := []impl.Ty{intTy(), intTy(), intTy(), leaf}
		for cut := 1; cut < len(kids); cut++ {
			shorter, longer := impl.Ty{Op: impl.TyFun, Kids: kids[:cut]}, impl.Ty{Op: impl.TyFun, Kids: kids}
			quickCheck(t, "lists from one place on", want, shorter, longer)
			quickCheck(t, "lists from one place on", want, longer, shorter)
			quickCheck(t, "a list that ends where another one does", want, impl.Ty{Op: impl.TyFun, Kids: kids[cut:]}, shorter)
			quickCheck(t, "a list that ends ahead of it", impl.DtDone, shorter, shorter)
		}
	}
}

// A type that is within itself names what it names, and the answer comes.
func TestCheckDatasOfTypesWithoutEnd(t *testing.T) {
	for n, leaf := range []impl.Ty{dataTy("U"), dataTy("Q"), dataTy("L")} {
		want := []int{impl.DtDone, impl.DtName, impl.DtMany}[n]
		for many := 1; many < 4; many++ {
			round := slices.Repeat([]impl.Ty{leaf}, many+1)
			for i := range many {
				round[i] = impl.Ty{Op: impl.TyFun, Kids: round}
			}
			quickCheck(t, "types within themselves", want, round...)
			quickCheck(t, "a type within itself", want, intTy(), round[0])
			quickCheck(t, "a type about one that is within itself", want, dataTy("L", funTy(intTy(), round[0])))
		}
	}
	self := make([]impl.Ty, 1)
	self[0] = impl.Ty{Op: impl.TyData, S: "L", Kids: self}
	quickCheck(t, "a data of itself", impl.DtDone, self...)
	self[0].S = "U"
	quickCheck(t, "a data of itself, which has no vars", impl.DtMany, self...)
	self[0].S = "Q"
	quickCheck(t, "a data of itself, which is none", impl.DtName, self...)
}

func TestManyDatas(t *testing.T) {
	const many = 100000
	var list []impl.Data
	for i := range many {
		text := strconv.Itoa(i)
		list = append(list, oneData("D"+text, 0, oneCon("C"+text, dataTy("D"+strconv.Itoa(many-1-i))), oneCon("B"+text)))
	}
	last := "C" + strconv.Itoa(many-1)
	if data, con := impl.ConOf(list, last); data != many-1 || con != 0 || impl.ConTag(list, last) != 2*many-2 {
		t.Errorf("the con ahead of the last one is con %d of data %d, its tag %d", con, data, impl.ConTag(list, last))
	}
	if data, con := impl.TagCon(list, 2*many-1); data != many-1 || con != 1 {
		t.Errorf("the last con is con %d of data %d", con, data)
	}
	if data, con := impl.TagCon(list, 2*many); data != -1 || con != -1 {
		t.Errorf("behind the last con is con %d of data %d", con, data)
	}
	if got := impl.CheckDatas(list); got != impl.DtMany {
		t.Errorf("CheckDatas of many datas is %d", got)
	}
	list[0].Cons[0].Args[0].S = "Q"
	if got := impl.CheckDatas(list); got != impl.DtName {
		t.Errorf("CheckDatas of many datas and a name that is none is %d", got)
	}
	list[many-1].Cons[1].Name = "C0"
	if got := impl.CheckDatas(list); got != impl.DtTwice {
		t.Errorf("CheckDatas of many datas and two cons of one name is %d", got)
	}
	list[many-1].Cons[1].Name = "B"
	list[many-1].Name = "D0"
	if got := impl.CheckDatas(list); got != impl.DtTwice {
		t.Errorf("CheckDatas of many datas, two of them of one name, is %d", got)
	}
}

func TestRandomDatas(t *testing.T) {
	s := steps(61)
	met := map[int]int{}
	for i := range 6000 {
		list := s.rightDatas()
		if i%4 == 0 {
			wantCheck(t, list, impl.DtDone)
		}
		for left := s.below(4); left > 0; left-- {
			list = s.turnDatas(list)
		}
		want := checkBy(list)
		met[want]++
		if got := impl.CheckDatas(list); got != want {
			t.Fatalf("CheckDatas(%s) is %d, not %d", toldDatas(list), got, want)
		}
		holdTags(t, list)
		if t.Failed() {
			return
		}
	}
	for code := impl.DtDone; code <= impl.DtMany; code++ {
		if met[code] < 200 {
			t.Errorf("only %d lists of datas are told as %d", met[code], code)
		}
	}
}

// Any datas of a program that was turned at some spots, tidy or not.
func TestDatasOfTurnedPrograms(t *testing.T) {
	s := steps(62)
	for range 5000 {
		p := s.randomProg(1 + s.below(4))
		for left := s.below(4); left > 0; left-- {
			s.turned(&p)
		}
		if got, want := impl.CheckDatas(p.Datas), checkBy(p.Datas); got != want {
			t.Fatalf("CheckDatas(%s) is %d, not %d", toldDatas(p.Datas), got, want)
		}
		holdTags(t, p.Datas)
		if t.Failed() {
			return
		}
	}
}

// No argument is written into, nor the room behind it; asked again, the answer is the same.
func TestDatasAreNotWrittenInto(t *testing.T) {
	s := steps(63)
	met := map[int]int{}
	for range 2000 {
		list := s.rightDatas()
		for left := s.below(4); left > 0; left-- {
			list = s.turnDatas(list)
		}
		p := withRoom(impl.Prog{Datas: list})
		before := toldWithRoom(p)
		code := impl.CheckDatas(p.Datas)
		met[code]++
		for tag, c := range append(seatsOf(p.Datas), seat{-1, -1, "Nobody"}) {
			impl.ConOf(p.Datas, c.name)
			impl.ConTag(p.Datas, c.name)
			wantTagCon(t, p.Datas, tag, c.data, c.con)
		}
		wantConOf(t, p.Datas, "Room", -1, -1, -1)
		if toldWithRoom(p) != before {
			t.Fatalf("%s was written into", before)
		}
		if got := impl.CheckDatas(p.Datas); got != code || got != impl.CheckDatas(list) {
			t.Fatalf("asked again, CheckDatas(%s) is %d, not %d", toldDatas(list), got, code)
		}
	}
	for code := impl.DtDone; code <= impl.DtMany; code++ {
		if met[code] < 50 {
			t.Errorf("only %d lists of datas are told as %d", met[code], code)
		}
	}
}
