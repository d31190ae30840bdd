package tests

import (
	"slices"
	"strings"
	"testing"

	"loop.example/g00323/impl"
)

// A tower is a block, and blocks above it one behind the other, each with the one below as its kid; kids are what stands about that. The last word is that of the block at the top.
func towerOf(second bool, from, many int, floor aBlock, storey func(below int) aBlock) (impl.Heap, int) {
	list := []aBlock{floor}
	next, below := from+1+len(floor.kids), from
	for range many {
		b := storey(refOf(below))
		list = append(list, b)
		below = next
		next += 1 + len(b.kids)
	}
	h, _ := heapOf(halfMost, second, list...)
	return h, refOf(below)
}

// downTower is the same with the top block first, so that kids lie behind.
func downTower(second bool, from, many int, floor aBlock, storey func(below int) aBlock) (impl.Heap, int) {
	var list []aBlock
	next := from
	for range many {
		next += 1 + len(storey(0).kids)
		list = append(list, storey(refOf(next)))
	}
	h, _ := heapOf(halfMost, second, append(list, floor)...)
	return h, refOf(from)
}

func TestBackOfDeepValues(t *testing.T) {
	floors := []struct {
		block aBlock
		deep  int
		text  string
	}{
		{conBlock(tagE), 1, "E"}, {funBlock(3), 1, "fun"}, {funBlock(3, intOf(4)), 1, "fun"}, {conBlock(tagS, intOf(6)), 2, "(S 6)"},
		{conBlock(tagP, intOf(1), intOf(2)), 2, "(P 1 2)"},
	}
	storeys := []struct {
		of            func(below int) aBlock
		ahead, behind string
	}{
		{func(below int) aBlock { return conBlock(tagS, below) }, "(S ", ")"},
		{func(below int) aBlock { return conBlock(tagC, intOf(7), below) }, "(C 7 ", ")"},
		{func(below int) aBlock { return conBlock(tagT, intOf(7), below, intOf(-7)) }, "(T 7 ", " -7)"},
	}
	movedBoth(halfMost, func(second bool, from int) {
		for _, many := range []int{0, 1, 2, 197, 198, 199, 200, 201, 202, 400} {
			for _, floor := range floors {
				for _, storey := range storeys {
					text := strings.Repeat(storey.ahead, many) + floor.text + strings.Repeat(storey.behind, many)
					if many+floor.deep > tyMost {
						text = ""
					}
					for _, tower := range []func(bool, int, int, aBlock, func(int) aBlock) (impl.Heap, int){towerOf, downTower} {
						h, w := tower(second, from, many, floor.block, storey.of)
						wantBack(t, backDatas(), h, w, text)
					}
				}
			}
		}
	})
}

// What is too deep stands at one kid of many; the others come out.
func TestBackOfOneDeepKid(t *testing.T) {
	ones := func(below int) aBlock { return conBlock(tagS, below) }
	for _, many := range []int{198, 199} {
		for which := range keptMost {
			h, w := towerOf(false, 0, many-1, conBlock(tagE), ones)
			kids := slices.Repeat([]int{refOf(0)}, keptMost)
			kids[which] = w
			h, p, ok := impl.Alloc(h, false, tagW, kids)
			if !ok {
				t.Fatal("there is no room")
			}
			text := "(W" + strings.Repeat(" E", which) + " " + strings.Repeat("(S ", many-1) + "E" + strings.Repeat(")", many-1) + strings.Repeat(" E", keptMost-1-which) + ")"
			wantBack(t, backDatas(), h, refOf(p), text)
			h, q, _ := impl.Alloc(h, false, tagS, []int{refOf(p)})
			if text = "(S " + text + ")"; many == 199 {
				text = ""
			}
			wantBack(t, backDatas(), h, refOf(q), text)
		}
	}
}

// shares puts blocks into a heap till there is a word with just so many values in it, sharing what it may.
type shares struct {
	t    *testing.T
	heap impl.Heap
	made map[int]int
}

func (z *shares) alloc(tag int, kids ...int) int {
	h, p, ok := impl.Alloc(z.heap, false, tag, kids)
	if !ok {
		z.t.Fatalf("there is no room in %s", toldHeap(z.heap))
	}
	z.heap = h
	return refOf(p)
}

func (z *shares) word(many int) int {
	if w, is := z.made[many]; is {
		return w
	}
	w := intOf(many)
	switch {
	case many == 1:
	case many == 2:
		w = z.alloc(tagS, z.word(1))
	case many < 22 || many%3 == 0:
		w = z.alloc(tagP, z.word((many-1)/2), z.word(many-1-(many-1)/2))
	case many%3 == 1:
		w = z.alloc(tagC, z.word(many/3), z.word(many-1-many/3))
	default:
		// Nineteen kids and one that has what is left.
		each := (many - 1) / keptMost
		w = z.alloc(tagW, append(slices.Repeat([]int{z.word(each)}, keptMost-1), z.word(many-1-(keptMost-1)*each))...)
	}
	z.made[many] = w
	return w
}

func TestBackOfManyValues(t *testing.T) {
	for _, second := range []bool{false, true} {
		for _, many := range []int{1, 2, 3, 20, 21, 22, 100, 1999, 2000, 3990, 3997, 3998, 3999, 4000, 4001, 4002, 4003, 4010, 7999, 8000, 100000, 1000000} {
			z := shares{t, emptyHeap(halfMost, second), map[int]int{}}
			w := z.word(many)
			holdBack(t, backDatas(), z.heap, w)
			v, ok := impl.Back(backDatas(), z.heap, w)
			if ok != (many <= valueMost) {
				t.Errorf("Back of %d values is %v", many, ok)
			}
			if got, deep := insideOf(v); ok && (got != many || deep > tyMost) || !ok && !sameValue(v, impl.Value{}) {
				t.Errorf("Back of %d values has %d", many, got)
			}
			// One about it has one more.
			w = z.alloc(tagS, w)
			holdBack(t, backDatas(), z.heap, w)
			if _, ok := impl.Back(backDatas(), z.heap, w); ok != (many < valueMost) {
				t.Errorf("Back of %d values is %v", many+1, ok)
			}
		}
	}
}

// The last value of all is the one too many, or what comes last is a function or a con, not only an int.
func TestBackOfOneValueTooMany(t *testing.T) {
	for which, last := range []func(z *shares) int{
		func(z *shares) int { return intOf(5) },
		func(z *shares) int { return z.alloc(tagE) },
		func(z *shares) int {
			h, p, _ := impl.Alloc(z.heap, true, 2, []int{intOf(1)})
			z.heap = h
			return refOf(p)
		},
	} {
		for many := 3990; many <= 4004; many++ {
			for _, isFirst := range []bool{false, true} {
				z := shares{t, emptyHeap(halfMost, which == 1), map[int]int{}}
				w, end := z.word(many-2), last(&z)
				if isFirst {
					w, end = end, w
				}
				w = z.alloc(tagP, w, end)
				holdBack(t, backDatas(), z.heap, w)
				if _, ok := impl.Back(backDatas(), z.heap, w); ok != (many <= valueMost) {
					t.Errorf("Back of %d values is %v", many, ok)
				}
			}
		}
	}
}

// What has a block below it twice, storey by storey, would be more than may ever be told.
func TestBackOfWhatIsSharedOverAndOver(t *testing.T) {
	quickly(t, "Back", func() {
		movedBoth(halfMost, func(second bool, from int) {
			for _, many := range []int{1, 5, 10, 11, 12, 30, 62, 63, 64, 65, 100, 198, 199, 200, 201, 500, 900} {
				for _, kids := range []int{2, 3} {
					storey := func(below int) aBlock { return conBlock(tagP-2+kids, slices.Repeat([]int{below}, kids)...) }
					h, w := towerOf(second, from, min(many, 2900/(kids+1)), conBlock(tagN), storey)
					holdBack(t, backDatas(), h, w)
					values := 1
					for range many {
						values = min(1+kids*values, valueMost+1)
					}
					if _, ok := impl.Back(backDatas(), h, w); ok != (values <= valueMost) {
						t.Errorf("Back of %d storeys of %d is %v", many, kids, ok)
					}
				}
			}
			// As wide as there may be, sharing all.
			wide := func(below int) aBlock { return conBlock(tagW, slices.Repeat([]int{below}, keptMost)...) }
			for many := range 130 {
				h, w := towerOf(second, from, many, funBlock(0), wide)
				if _, ok := impl.Back(backDatas(), h, w); ok != (many <= 2) {
					t.Errorf("Back of %d storeys of %d is %v", many, keptMost, ok)
				}
			}
		})
	})
}

// A block that comes round to itself has no end; a function ends it.
func TestBackOfRings(t *testing.T) {
	quickly(t, "Back", func() {
		movedBoth(600, func(second bool, from int) {
			for _, long := range []int{1, 2, 3, 50, 199, 200, 201, 290} {
				var list []aBlock
				for i := range long {
					list = append(list, conBlock(tagS, refOf(from+2*((i+1)%long))))
				}
				h, places := heapOf(600, second, list...)
				for _, i := range []int{0, 1 % long, long / 2, long - 1} {
					wantNoneBack(t, backDatas(), h, refOf(places[i]))
				}
				// The ring is broken by an int.
				h.Words[places[long-1]+1] = intOf(4)
				for _, i := range []int{0, 1 % long, long / 2, long - 1} {
					text := strings.Repeat("(S ", long-i) + "4" + strings.Repeat(")", long-i)
					if long-i >= tyMost {
						text = ""
					}
					wantBack(t, backDatas(), h, refOf(places[i]), text)
				}
			}
			holdWideRings(t, second, from)
		})
	})
}

func holdWideRings(t *testing.T, second bool, from int) {
	t.Helper()
	self := refOf(from)
	for which := range keptMost {
		kids := slices.Repeat([]int{intOf(1)}, keptMost)
		kids[which] = self
		h, places := heapOf(600, second, conBlock(tagW, kids...), conBlock(tagS, self), funBlock(1, self), conBlock(tagS, refOf(from+23)))
		wantNoneBack(t, backDatas(), h, self, refOf(places[1]))
		wantBack(t, backDatas(), h, refOf(places[2]), "fun")
		wantBack(t, backDatas(), h, refOf(places[3]), "(S fun)")
	}
	h, _ := heapOf(600, second, conBlock(tagW, slices.Repeat([]int{self}, keptMost)...))
	wantNoneBack(t, backDatas(), h, self)
	h, _ = heapOf(600, second, conBlock(tagP, refOf(from+3), refOf(from+3)), conBlock(tagP, self, self))
	wantNoneBack(t, backDatas(), h, self, refOf(from+3))
	// Through a function it comes round, and is told all the same.
	h, _ = heapOf(600, second, conBlock(tagP, refOf(from+3), refOf(from+3)), funBlock(2, self, refOf(from+3)))
	wantBack(t, backDatas(), h, self, "(P fun fun)")
}
