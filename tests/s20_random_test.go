package tests

import (
	"slices"
	"testing"

	"loop.example/g00323/impl"
)

// kidsOfBackTags are how many kids the cons of backDatas have, by their tags.
func kidsOfBackTags() []int { return []int{0, 2, 0, 1, 2, 3, keptMost} }

// valueBlock is a function's block, or one that its con may have; its kids are ints till they are put in.
func (s *steps) valueBlock() aBlock {
	if s.below(5) == 0 {
		return funBlock(s.below(9), slices.Repeat([]int{intOf(2)}, s.below(4))...)
	}
	tag := s.below(tagW)
	if s.below(40) == 0 {
		tag = tagW
	}
	return conBlock(tag, slices.Repeat([]int{intOf(2)}, kidsOfBackTags()[tag])...)
}

// valueHeap is a heap of blocks that are right as values, whose kids are mostly blocks ahead of them; by times in a hundred they are any block. Some of them may lack a kid, or have a tag that is no con's.
func (s *steps) valueHeap(most, times, wrong int) (impl.Heap, []int) {
	var list []aBlock
	size := 0
	for range s.below(most + 1) {
		b := s.valueBlock()
		switch s.below(40) {
		case 0:
			b.tag += wrong * (1 + s.below(60))
		case 1:
			b.kids = append(b.kids, slices.Repeat([]int{intOf(3)}, min(wrong, keptMost-len(b.kids)))...)
		case 2:
			b.kids = b.kids[:len(b.kids)-min(wrong, len(b.kids))]
		}
		list = append(list, b)
		size += 1 + len(b.kids)
	}
	h, places := heapOf(1+size+s.below(20), s.below(2) == 0, list...)
	for i, b := range list {
		for k := range b.kids {
			h.Words[places[i]+1+k] = s.valueKid(places, i, times)
		}
	}
	fillElsewhere(h, s.below(9)-4)
	return h, places
}

func (s *steps) valueKid(places []int, i, times int) int {
	switch {
	case s.below(100) < times:
		return refOf(places[s.below(len(places))])
	case i > 0 && s.below(3) > 0:
		return refOf(places[max(0, i-1-s.below(4))])
	}
	return intOf([]int{0, 1, -1, 7, least, greatest, i}[s.below(7)])
}

// wordsAsked are all places of blocks, and some words that are right or not.
func (s *steps) wordsAsked(h impl.Heap, places []int) []int {
	words := []int{intOf(s.below(99) - 50), refOf(h.Base + s.below(h.Half+1)), refOf(h.Next), refOf(h.Half - h.Base), someNumber(s)}
	for _, p := range places {
		words = append(words, refOf(p))
	}
	return words
}

func TestRandomBacks(t *testing.T) {
	s := steps(201)
	list := backDatas()
	blocks, out := 0, 0
	for i := range 4000 {
		h, places := s.valueHeap(1+i%40, 2*(i%4), i%2)
		holdBack(t, list, h, s.wordsAsked(h, nil)...)
		blocks, out = blocks+len(places), out+holdBack(t, list, h, s.wordsAsked(h, places)[5:]...)
	}
	if blocks < 30000 || out < 20000 || out > blocks-2000 {
		t.Errorf("of %d blocks %d come out", blocks, out)
	}
}

// Heaps that are right as heaps, whatever their tags and kids, and ones that are turned.
func TestRandomBacksOfAnyHeap(t *testing.T) {
	s := steps(202)
	few := []impl.Data{oneData("A", 0, oneCon("A"), oneCon("B", intTy()), oneCon("C", intTy(), intTy()))}
	lists := [][]impl.Data{backDatas(), few, nil, manyCons(placesMost + 1)}
	met := map[bool]int{}
	for i := range 6000 {
		h := s.rightHeap(1 + i%40)
		list := lists[i%3]
		if i%20 == 0 {
			list = lists[3]
		}
		if i%3 == 0 {
			s.turnHeap(&h)
		}
		var places []int
		for p := range h.Words {
			places = append(places, p)
		}
		if len(places) > 0 {
			met[holdBack(t, list, h, s.wordsAsked(impl.Heap{Half: max(h.Half, 1), Base: h.Base, Next: h.Next}, places)...) > 1]++
		}
	}
	if met[true] < 3000 || met[false] < 1000 {
		t.Errorf("more than an int comes out, or not, %v times", met)
	}
}

func TestRandomBacksOfTurnedHeaps(t *testing.T) {
	s := steps(203)
	met := map[bool]int{}
	for i := range 6000 {
		h, places := s.valueHeap(1+i%20, 1, 0)
		s.turnHeap(&h)
		out := holdBack(t, backDatas(), h, append([]int{intOf(4)}, s.wordsAsked(impl.Heap{Half: max(h.Half, 1), Base: h.Base, Next: h.Next}, places)...)...)
		_, is := blocksBy(h)
		if !is && out > 0 {
			t.Fatalf("of %s %d come out", toldHeap(h), out)
		}
		met[is]++
	}
	if met[true] < 1500 || met[false] < 2500 {
		t.Errorf("it is right and not %v times", met)
	}
}

// All heaps of up to three blocks, each of which is a function, or of one of four tags, with up to two kids, which are an int or any of the blocks.
func TestSmallBacks(t *testing.T) {
	list := datasOf("data O a = N | S a | P a a;")
	kinds := func(many int) []aBlock {
		kinds := []aBlock{funBlock(0), conBlock(0), conBlock(1), conBlock(3)}
		for a := -1; a < many; a++ {
			kinds = append(kinds, funBlock(2, a), conBlock(0, a), conBlock(1, a))
			for b := -1; b < many; b++ {
				kinds = append(kinds, conBlock(2, a, b))
			}
		}
		return append(kinds, conBlock(1, -1, -1))
	}
	heaps, out := 0, 0
	hold := func(blocks ...aBlock) {
		h, places := heapOfBlocks(9, heaps%2 == 0, blocks...)
		var words []int
		for _, p := range places {
			words = append(words, refOf(p))
		}
		heaps++
		out += holdBack(t, list, h, words...)
	}
	for many := range 4 {
		list := kinds(many)
		for i := range list {
			switch many {
			case 1:
				hold(list[i])
			case 2:
				for j := range list {
					hold(list[i], list[j])
				}
			case 3:
				for n := range len(list) * len(list) {
					hold(list[i], list[n/len(list)], list[n%len(list)])
				}
			}
		}
	}
	if heaps != 15+23*23+33*33*33 || out < 30000 || out > 40000 {
		t.Errorf("of %d heaps %d blocks come out", heaps, out)
	}
}

// heapOfBlocks is a heap of blocks whose kids tell which block, or the int -1.
func heapOfBlocks(half int, second bool, blocks ...aBlock) (impl.Heap, []int) {
	_, places := heapOf(half, second, blocks...)
	var list []aBlock
	for _, b := range blocks {
		var kids []int
		for _, which := range b.kids {
			if which < 0 {
				kids = append(kids, intOf(-1))
			} else {
				kids = append(kids, refOf(places[which]))
			}
		}
		list = append(list, aBlock{b.fun, b.tag, kids})
	}
	return heapOf(half, second, list...)
}

// valueHolder is a heap at work with the values that its roots stand for.
type valueHolder struct {
	holder
	values []impl.Value
}

// add wants that there is room once it is moved, or drops all.
func (o *valueHolder) addValue(v impl.Value, fun bool, tag int, which []int) {
	if !o.add(fun, tag, which) {
		o.roots, o.values = nil, nil
		return
	}
	o.values = append(o.values, v)
}

func (o *valueHolder) keep(s *steps, list []impl.Data) {
	switch kind := s.below(10); {
	case kind == 0 || len(o.roots) == 0:
		n := []int{0, -1, 5, least, greatest, s.below(999)}[s.below(6)]
		o.roots, o.values = append(slices.Clone(o.roots), impl.IntWord(n)), append(o.values, intValue(n))
	case kind == 1:
		i := s.below(len(o.roots))
		o.drop(i)
		o.values = slices.Delete(o.values, i, i+1)
	case kind == 2:
		var which []int
		for range s.below(4) {
			which = append(which, s.below(len(o.roots)+1)-1)
		}
		o.addValue(funValue(), true, s.below(70), which)
	case kind == 3:
		o.move()
	default:
		o.keepCon(s, list)
	}
}

func (o *valueHolder) keepCon(s *steps, list []impl.Data) {
	tag := s.below(tagW)
	if s.below(30) == 0 {
		tag = tagW
	}
	c, _ := conOfTag(list, tag)
	v := conValue(c.Name)
	var which []int
	for range c.Args {
		// The latest ones more often, so that they grow.
		i := len(o.roots) - 1 - min(s.below(len(o.roots)), s.below(len(o.roots)), s.below(len(o.roots)))
		which, v.Kids = append(which, i), append(v.Kids, o.values[i])
	}
	o.addValue(v, false, tag, which)
}

// What was allocated comes out, whenever the heap is moved.
func TestWhatIsAllocatedComesOut(t *testing.T) {
	s := steps(204)
	list := backDatas()
	out, great, moves := 0, 0, 0
	for i := range 120 {
		o := &valueHolder{holder: holder{heap: emptyHeap(60+s.below(300), i%2 == 0)}}
		for range 150 {
			o.keep(&s, list)
			if len(o.roots) == 0 {
				continue
			}
			k := len(o.roots) - 1 - min(s.below(len(o.roots)), s.below(len(o.roots)))
			isTold := fitsLimits(o.values[k])
			got, ok := impl.Back(list, o.heap, o.roots[k])
			if ok != isTold || ok && !sameValue(got, o.values[k]) {
				t.Fatalf("what was allocated is %.300s and %v", toldValue(got), ok)
			}
			if ok {
				out++
			} else {
				great++
			}
		}
		moves += o.moves
	}
	if out < 10000 || great < 20 || moves < 1000 {
		t.Errorf("%d come out, %d are too great, and it is moved %d times", out, great, moves)
	}
}

// fitsLimits goes no further down than it must, since values are shared here.
func fitsLimits(v impl.Value) bool {
	left := valueMost
	var down func(v impl.Value, deep int) bool
	down = func(v impl.Value, deep int) bool {
		left--
		if deep > tyMost || left < 0 {
			return false
		}
		for _, kid := range v.Kids {
			if !down(kid, deep+1) {
				return false
			}
		}
		return true
	}
	return down(v, 1)
}

// holdBackMemory holds that neither datas nor a heap are written into, nor the room behind their lists, and that what is answered is new, each list of it by itself.
func holdBackMemory(t *testing.T, list []impl.Data, h impl.Heap, w int) bool {
	t.Helper()
	h = heapWithRoom(h)
	p := withRoom(impl.Prog{Datas: list})
	kept, words := toldWithRoom(p), slices.Clone(h.Words[:cap(h.Words)])
	var lists, texts pieces
	addProg(&lists, &texts, p)
	addList(&lists, h.Words)
	one, ok := impl.Back(p.Datas, h, w)
	other, _ := impl.Back(p.Datas, h, w)
	want := toldValue(one)
	addValue(&lists, &texts, one)
	addValue(&lists, &texts, other)
	if lists.overlap() || texts.overlap() {
		t.Fatalf("what is answered of %d in %s shares memory", w, toldHeap(h))
	}
	spoilValue(one)
	if toldValue(other) != want {
		t.Fatalf("two answers of %d in %s are one", w, toldHeap(h))
	}
	if toldWithRoom(p) != kept || !slices.Equal(h.Words[:cap(h.Words)], words) {
		t.Fatalf("%s is written into", toldHeap(h))
	}
	if again, still := impl.Back(p.Datas, h, w); still != ok || toldValue(again) != want {
		t.Fatalf("asked again, %d in %s is told otherwise", w, toldHeap(h))
	}
	return ok
}

func TestBacksAreNewMemory(t *testing.T) {
	s := steps(205)
	met := map[bool]int{}
	for i := range 1500 {
		h, places := s.valueHeap(1+i%30, 2, 1)
		if i%4 == 0 {
			s.turnHeap(&h)
		}
		for _, w := range s.wordsAsked(impl.Heap{Half: max(h.Half, 1), Base: h.Base, Next: h.Next}, places) {
			met[holdBackMemory(t, backDatas(), h, w)]++
		}
	}
	if met[true] < 8000 || met[false] < 5000 {
		t.Errorf("it comes out and not %v times", met)
	}
	for _, h := range wrongHeaps() {
		holdBackMemory(t, backDatas(), h, refOf(0))
	}
	movedBoth(40, func(second bool, from int) {
		for p := range 40 {
			holdBackMemory(t, backDatas(), heapOfValues(second, from), refOf(from+p))
		}
	})
}

// All are asked at once: what one is told hangs on none of the others.
func TestBacksAtOnce(t *testing.T) {
	list := backDatas()
	movedBoth(40, func(second bool, from int) {
		h := heapOfValues(second, from)
		w := refOf(from + 10)
		want, _ := impl.Back(list, h, w)
		done := make(chan bool)
		for range 8 {
			go func() {
				same := true
				for range 200 {
					got, ok := impl.Back(list, h, w)
					same = same && ok && sameValue(got, want)
				}
				done <- same
			}()
		}
		for range 8 {
			if !<-done {
				t.Error("asked at once it is told otherwise")
			}
		}
	})
}

// Great datas are answered, whatever is asked.
func TestBackOfGreatDatas(t *testing.T) {
	const many = 1000000
	empty := make([]impl.Data, many)
	wide := []impl.Data{oneData("D", 0, make([]impl.Con, many)...)}
	quickly(t, "Back", func() {
		z := shares{t, emptyHeap(halfMost, false), map[int]int{}}
		w := z.word(valueMost)
		for _, list := range [][]impl.Data{append(empty[:many:many], backDatas()...), append(backDatas(), empty...), append(backDatas(), wide...)} {
			v, ok := impl.Back(list, z.heap, w)
			if got, _ := insideOf(v); !ok || got != valueMost {
				t.Errorf("Back in great datas has %d values", got)
			}
		}
		if _, ok := impl.Back(empty, z.heap, w); ok {
			t.Error("Back without cons is true")
		}
		for tag := range 3 {
			h, _ := heapOf(9, true, conBlock(tag*1500), conBlock(1, intOf(1)))
			v, ok := impl.Back(wide, h, refOf(9))
			if !ok || !sameValue(v, conValue("")) {
				t.Errorf("Back of one of many cons is %s and %v", toldValue(v), ok)
			}
			wantNoneBack(t, wide, h, refOf(10))
		}
	})
}
