package tests

import (
	"math"
	"slices"
	"strings"
	"testing"

	"loop.example/g00323/impl"
)

func TestBackOfInts(t *testing.T) {
	list := backDatas()
	movedBoth(9, func(second bool, from int) {
		for _, h := range []impl.Heap{emptyHeap(9, second), heapAt(9, second, headOf(false, tagS, 1), intOf(5))} {
			for n, want := range map[int]string{0: "0", 1: "1", -1: "-1", 7: "7", -70: "-70", greatest: "1073741823", least: "-1073741824", from: impl.Digits(from)} {
				for _, datas := range [][]impl.Data{list, nil, {{}}} {
					wantBack(t, datas, h, intOf(n), want)
					if v, _ := impl.Back(datas, h, impl.IntWord(n)); v.Kind != impl.VlInt || v.N != n || v.S != "" || v.Kids != nil {
						t.Errorf("Back of the int %d is %s", n, toldValue(v))
					}
				}
			}
		}
	})
}

// An int word is odd, whatever it is half of: of what is no word it is that int, as no reason is named why it should not be.
func TestBackOfIntsThatAreNoWords(t *testing.T) {
	for _, h := range []impl.Heap{emptyHeap(3, false), emptyHeap(3, true)} {
		for n, want := range map[int]string{greatest + 1: "1073741824", least - 1: "-1073741825", circle: "2147483648", 1 << 40: "1099511627776", math.MaxInt >> 1: "4611686018427387903", math.MinInt >> 1: "-4611686018427387904"} {
			wantBack(t, nil, h, intOf(n), want)
			wantBack(t, backDatas(), h, intOf(n), want)
			// IntWord of what is no word is 1, and that is 0.
			wantBack(t, nil, h, impl.IntWord(n), "0")
		}
		for _, n := range edgeNumbers() {
			holdBack(t, backDatas(), h, n|1, n&^1)
		}
		// Within a block such an int is no right kid.
		h = heapAt(3, h.Base > 0, headOf(false, tagS, 1), intOf(greatest+1))
		wantNoneBack(t, backDatas(), h, refOf(h.Base), intOf(1))
	}
}

// heapOfValues holds, from its beginning on: E at 0, C 3 E at 1, a function at 4, another one that keeps it and itself at 5, S of the first one at 8, T of an int, a con and a function at 10, P of one block twice at 14, W at 17.
func heapOfValues(second bool, from int) impl.Heap {
	wide := conBlock(tagW, slices.Repeat([]int{refOf(from), intOf(-3)}, 10)...)
	h, _ := heapOf(40, second,
		conBlock(tagE), conBlock(tagC, intOf(3), refOf(from)), funBlock(0), funBlock(7, refOf(from+4), refOf(from+5)), conBlock(tagS, refOf(from+4)),
		conBlock(tagT, intOf(-1), refOf(from+1), refOf(from+5)), conBlock(tagP, refOf(from+1), refOf(from+1)), wide, conBlock(tagN))
	return h
}

func TestBackByHand(t *testing.T) {
	movedBoth(40, func(second bool, from int) {
		h := heapOfValues(second, from)
		places := map[int]string{
			0: "E", 1: "(C 3 E)", 4: "fun", 5: "fun", 8: "(S fun)", 10: "(T -1 (C 3 E) fun)", 14: "(P (C 3 E) (C 3 E))",
			17: "(W" + strings.Repeat(" E -3", 10) + ")", 38: "N",
		}
		for p := -45; p < 125; p++ {
			wantBack(t, backDatas(), h, refOf(p), places[p-from])
		}
		if v, ok := impl.Back(backDatas(), h, refOf(from+10)); !ok || !sameValue(v, conValue("T", intValue(-1), conValue("C", intValue(3), conValue("E")), funValue())) {
			t.Errorf("the T is %s", toldValue(v))
		}
	})
}

// What types a con has is not asked, only how many.
func TestBackAsksForNoTypes(t *testing.T) {
	movedBoth(30, func(second bool, from int) {
		h, places := heapOf(30, second, conBlock(tagE), funBlock(4), conBlock(tagC, refOf(from), intOf(9)), conBlock(tagT, refOf(from), refOf(from+1), refOf(from+2)), conBlock(tagS, refOf(from+5)))
		for i, want := range []string{"E", "fun", "(C E 9)", "(T E fun (C E 9))", "(S (T E fun (C E 9)))"} {
			wantBack(t, backDatas(), h, refOf(places[i]), want)
		}
	})
}

// A function is told alike, whatever it is of and whatever it keeps.
func TestBackOfFunctions(t *testing.T) {
	movedBoth(200, func(second bool, from int) {
		for _, tag := range []int{0, 1, tagS, tagW, tagW + 1, 59, 60, placesMost} {
			for kids := range keptMost + 1 {
				for _, kid := range []int{intOf(0), intOf(least), refOf(from), refOf(from + 2), refOf(from + 4)} {
					// What it keeps is itself, what would be no con, or what comes round to itself.
					f := funBlock(tag, slices.Repeat([]int{kid}, kids)...)
					h, places := heapOf(200, second, conBlock(placesMost), conBlock(tagE), conBlock(tagS, refOf(from+2)), f, conBlock(tagS, refOf(from+4)))
					wantBack(t, backDatas(), h, refOf(places[3]), "fun")
					wantBack(t, backDatas(), h, refOf(places[4]), "(S fun)")
					wantBack(t, nil, h, refOf(places[3]), "fun")
					wantNoneBack(t, backDatas(), h, refOf(places[0]), refOf(places[2]))
				}
			}
		}
	})
}

func TestBackOfAFunctionIsBare(t *testing.T) {
	h, _ := heapOf(9, false, funBlock(5, intOf(3), refOf(0)))
	if v, ok := impl.Back(backDatas(), h, refOf(0)); !ok || v.Kind != impl.VlFun || v.N != 0 || v.S != "" || len(v.Kids) != 0 {
		t.Errorf("a function is %s and %v", toldValue(v), ok)
	}
	h, _ = heapOf(9, false, conBlock(tagS, intOf(3)))
	if v, ok := impl.Back(backDatas(), h, refOf(0)); !ok || v.Kind != impl.VlCon || v.N != 0 || v.S != "S" || len(v.Kids) != 1 {
		t.Errorf("a con is %s and %v", toldValue(v), ok)
	}
}

// A block that is held twice is told twice, wherever it is.
func TestBackOfWhatIsHeldTwice(t *testing.T) {
	movedBoth(60, func(second bool, from int) {
		h, places := heapOf(60, second,
			conBlock(tagS, intOf(1)), conBlock(tagP, refOf(from), refOf(from)), conBlock(tagT, refOf(from+2), refOf(from), refOf(from+2)),
			funBlock(1), conBlock(tagW, append(slices.Repeat([]int{refOf(from + 9)}, 19), refOf(from+5))...))
		pair := "(P (S 1) (S 1))"
		wantBack(t, backDatas(), h, refOf(places[1]), pair)
		triple := "(T " + pair + " (S 1) " + pair + ")"
		wantBack(t, backDatas(), h, refOf(places[2]), triple)
		wantBack(t, backDatas(), h, refOf(places[4]), "(W"+strings.Repeat(" fun", 19)+" "+triple+")")
	})
}

// manyCons are datas of so many cons, some of none among them, which have 0 to 2 types by turns.
func manyCons(many int) []impl.Data {
	var list []impl.Data
	for i := range many {
		if i%7 == 0 {
			list = append(list, impl.Data{}, impl.Data{Name: "D", Cons: []impl.Con{}})
		}
		c := oneCon("K"+impl.Digits(i), slices.Repeat([]impl.Ty{intTy()}, i%3)...)
		list[len(list)-1].Cons = append(list[len(list)-1].Cons, c)
	}
	return list
}

// Each tag has its con by itself, in whichever data that is; one more has none.
func TestBackOfEachTag(t *testing.T) {
	for _, many := range []int{0, 1, 2, 59, 60, 61, 100, 2999, 3000, 3001, 3002, 4000} {
		list := manyCons(many)
		for _, tag := range []int{0, 1, 2, 3, 6, 7, 8, 58, 59, 60, 61, 62, 99, 100, 2998, 2999, 3000} {
			for kids := range 4 {
				h, _ := heapOf(5, tag%2 == 0, conBlock(tag, slices.Repeat([]int{intOf(4)}, kids)...))
				want := ""
				if tag < many && tag%3 == kids {
					want = []string{"K" + impl.Digits(tag), "(K" + impl.Digits(tag) + " 4)", "(K" + impl.Digits(tag) + " 4 4)"}[kids]
				}
				wantBack(t, list, h, refOf(h.Base), want)
			}
		}
	}
}

// Without datas, and with datas that have no cons, there is no tag; ints and functions come out all the same.
func TestBackWithoutCons(t *testing.T) {
	for _, list := range [][]impl.Data{nil, {}, {{}}, {{Name: "D"}, {Name: "E", Vars: 2}}, {{Cons: []impl.Con{}}}} {
		for tag := range 70 {
			for kids := range 3 {
				h, places := heapOf(9, kids == 1, conBlock(tag, slices.Repeat([]int{intOf(1)}, kids)...), funBlock(tag))
				wantNoneBack(t, list, h, refOf(places[0]))
				wantBack(t, list, h, refOf(places[1]), "fun")
				wantBack(t, list, h, intOf(tag), impl.Digits(tag))
			}
		}
	}
}

// A tag goes by how many cons are ahead, not by a name: names may be there twice, or be none.
func TestBackOfNamesThatAreNotRight(t *testing.T) {
	list := []impl.Data{oneData("D", 0, oneCon("A"), oneCon("A", intTy())), oneData("D", 0, oneCon(""), oneCon("A", intTy(), intTy()), oneCon("é\x00 x", intTy()))}
	for _, c := range []struct {
		tag  int
		kids []int
		want impl.Value
	}{
		{0, nil, conValue("A")}, {1, []int{intOf(5)}, conValue("A", intValue(5))}, {2, nil, conValue("")},
		{3, []int{intOf(5), intOf(6)}, conValue("A", intValue(5), intValue(6))}, {4, []int{intOf(1)}, conValue("é\x00 x", intValue(1))},
	} {
		h, _ := heapOf(5, false, conBlock(c.tag, c.kids...))
		holdBack(t, list, h, 0)
		if v, ok := impl.Back(list, h, 0); !ok || !sameValue(v, c.want) {
			t.Errorf("Back of tag %d is %s and %v", c.tag, toldValue(v), ok)
		}
	}
}

// A tag that is no con's, at the top and within, at each kid.
func TestBackOfTagsOfNoCon(t *testing.T) {
	movedBoth(60, func(second bool, from int) {
		for _, tag := range []int{tagW + 1, tagW + 2, 59, 60, 61, 63, 64, 65, 128, 2999, placesMost} {
			for kids := range keptMost + 1 {
				for which := range keptMost {
					wide := slices.Repeat([]int{intOf(2)}, keptMost)
					wide[which] = refOf(from)
					h, places := heapOf(60, second, conBlock(tag, slices.Repeat([]int{intOf(1)}, kids)...), conBlock(tagW, wide...), funBlock(1, refOf(from)), conBlock(tagE))
					wantNoneBack(t, backDatas(), h, refOf(places[0]), refOf(places[1]))
					wantBack(t, backDatas(), h, refOf(places[2]), "fun")
					wantBack(t, backDatas(), h, refOf(places[3]), "E")
					if kids%5 > 0 {
						break
					}
				}
			}
		}
	})
}

// A con has just its kids, at the top and within.
func TestBackOfOtherThanItsKids(t *testing.T) {
	names := []string{"E", "C", "N", "S", "P", "T", "W"}
	movedBoth(60, func(second bool, from int) {
		for tag, own := range []int{0, 2, 0, 1, 2, 3, keptMost} {
			for kids := range keptMost + 1 {
				b := conBlock(tag, slices.Repeat([]int{intOf(8)}, kids)...)
				h, places := heapOf(60, second, b, conBlock(tagS, refOf(from)), conBlock(tagT, intOf(1), intOf(2), refOf(from)), conBlock(tagP, refOf(from), intOf(3)))
				text := names[tag]
				if kids > 0 {
					text = "(" + text + strings.Repeat(" 8", kids) + ")"
				}
				for i, want := range []string{text, "(S " + text + ")", "(T 1 2 " + text + ")", "(P " + text + " 3)"} {
					if kids != own {
						want = ""
					}
					wantBack(t, backDatas(), h, refOf(places[i]), want)
				}
			}
		}
	})
}

// Whatever stands elsewhere in the heap, right as blocks, is not asked for.
func TestBackLooksAtNothingElse(t *testing.T) {
	movedBoth(30, func(second bool, from int) {
		h, places := heapOf(30, second, conBlock(placesMost), conBlock(tagS), conBlock(tagS, refOf(from+2)), conBlock(tagC, intOf(1), refOf(from+7)), conBlock(tagE))
		fillElsewhere(h, refOf(from+3))
		wantNoneBack(t, backDatas(), h, refOf(places[0]), refOf(places[1]), refOf(places[2]))
		wantBack(t, backDatas(), h, refOf(places[3]), "(C 1 E)")
	})
}

// A place of no block: within one, at Next and behind it, in the other half, far away; what stands there may look as a block.
func TestBackOfNoBlock(t *testing.T) {
	movedBoth(20, func(second bool, from int) {
		// Both are ints that would be headers if they stood elsewhere.
		con, fun := headOf(false, tagE, 0), headOf(true, 3, 0)
		texts := []string{"(C " + impl.Digits(halfDown(con)) + " " + impl.Digits(halfDown(fun)) + ")", "fun", "E"}
		for _, w := range []int{con, fun, 0, 1, -1} {
			h, places := heapOf(20, second, conBlock(tagC, con, fun), funBlock(1, con), conBlock(tagE))
			fillElsewhere(h, w)
			for p := -45; p <= 85; p++ {
				want := ""
				if i := slices.Index(places, p); i >= 0 {
					want = texts[i]
				}
				wantBack(t, backDatas(), h, refOf(p), want)
			}
			for _, far := range evenNumbers() {
				if !slices.Contains(places, far/2) {
					wantNoneBack(t, backDatas(), h, far)
				}
			}
		}
		// A heap without blocks has none, also where words look so.
		h := emptyHeap(20, second)
		fillElsewhere(h, headOf(false, tagE, 0))
		wantNoneBack(t, backDatas(), h, refOf(from), refOf(from+1), refOf(20-from), 0)
	})
}

// Of a heap that is not right nothing comes out, no int either.
func TestBackOfWrongHeaps(t *testing.T) {
	for _, h := range wrongHeaps() {
		words := slices.Concat([]int{intOf(0), intOf(1), intOf(-1), intOf(least), intOf(greatest), intOf(greatest + 1)}, evenNumbers())
		for p := -3; p < 30; p++ {
			words = append(words, refOf(p))
		}
		wantNoneBack(t, backDatas(), h, words...)
		wantNoneBack(t, nil, h, words...)
	}
}

// turnedHeaps are heapOfValues, wrong at a spot that has nothing to do with what is asked for.
func turnedHeaps(second bool, from int) []impl.Heap {
	var list []impl.Heap
	for _, wrong := range []func(h *impl.Heap){
		func(h *impl.Heap) { h.Half++ },
		func(h *impl.Heap) { h.Half-- },
		func(h *impl.Heap) { h.Half = -40 },
		func(h *impl.Heap) { h.Words = h.Words[:79] },
		func(h *impl.Heap) { h.Words = append(h.Words, 0) },
		func(h *impl.Heap) { h.Base++ },
		func(h *impl.Heap) { h.Base = 40 - h.Base },
		func(h *impl.Heap) { h.Base = -h.Base - 1 },
		func(h *impl.Heap) { h.Next = from - 1 },
		func(h *impl.Heap) { h.Next = from + 41 },
		func(h *impl.Heap) { h.Next = from + 2 },
		func(h *impl.Heap) { h.Next = from + 37 },
		func(h *impl.Heap) { h.Words[from+38] = headOf(false, tagN, 0) - 1 },
		func(h *impl.Heap) { h.Words[from+38] = headOf(false, placesMost+1, 0) },
		func(h *impl.Heap) { h.Words[from+38] = headOf(true, -1, 0) },
		func(h *impl.Heap) { h.Words[from+38] = headOf(true, 1, 1) },
		func(h *impl.Heap) { h.Words[from+17] = headOf(false, tagW, 21) },
		func(h *impl.Heap) { h.Words[from+18] = intOf(greatest + 1) },
		func(h *impl.Heap) { h.Words[from+18] = intOf(least - 1) },
		func(h *impl.Heap) { h.Words[from+18] = refOf(from + 2) },
		func(h *impl.Heap) { h.Words[from+18] = refOf(h.Next) },
		func(h *impl.Heap) { h.Words[from+18] = refOf(40 - from) },
		func(h *impl.Heap) { h.Words[from+18] = refOf(-1) },
	} {
		h := heapOfValues(second, from)
		wrong(&h)
		list = append(list, h)
	}
	return list
}

func TestBackOfTurnedHeaps(t *testing.T) {
	movedBoth(40, func(second bool, from int) {
		for i, h := range turnedHeaps(second, from) {
			wantHeapOk(t, h, false)
			wantNoneBack(t, backDatas(), h, intOf(3), refOf(from), refOf(from+1), refOf(from+4), refOf(0))
			if t.Failed() {
				t.Fatalf("the heap of number %d", i)
			}
		}
		wantHeapOk(t, heapOfValues(second, from), true)
	})
}
