package tests

import (
	"runtime"
	"slices"
	"strings"
	"sync"
	"testing"
	"time"

	"loop.example/g00323/impl"
)

// withoutAlt is a program of whose cases one has an alternative less, where there is one that has some.
func (s *steps) withoutAlt(p *impl.Prog) {
	var cases []*impl.Node
	for _, n := range spotsOf(p).nodes {
		if n.Op == impl.NdCase && len(n.Kids) > 2 {
			cases = append(cases, n)
		}
	}
	if len(cases) > 0 {
		n := cases[s.below(len(cases))]
		at := 1 + s.below(len(n.Kids)-1)
		n.Kids = slices.Delete(n.Kids, at, at+1)
	}
}

// Programs of which nodes stand elsewhere, alternatives are gone, or some words are gone, doubled or others.
func TestSwappedTexts(t *testing.T) {
	s := steps(214)
	met := map[int]int{}
	for i := range 1800 {
		p := s.wholeProg(1 + i%6)
		switch i % 5 {
		case 0:
			p = s.madeProg(1 + i%6)
		case 1:
			s.swappedNode(&p)
		case 2:
			s.withoutAlt(&p)
		}
		src := impl.Write(p)
		if i%5 > 2 {
			tokens, _ := impl.Tokens(src)
			var words []string
			for _, token := range tokens {
				words = append(words, token.Text)
			}
			src = strings.Join(s.swapped(words), " ")
		}
		_, code := holdText(t, src)
		met[code]++
	}
	if met[impl.BdDone] < 600 || met[impl.BdParse] < 500 || met[impl.BdType] < 80 || met[impl.BdMiss] < 100 {
		t.Errorf("the codes are %v", met)
	}
}

// Bytes that are others, gone, or put in.
func TestTextsOfTurnedBytes(t *testing.T) {
	s := steps(215)
	met := map[int]int{}
	for i := range 1500 {
		src := []byte(impl.Write(s.wholeProg(1 + i%5)))
		for range 1 + i%3 {
			at := s.below(len(src))
			other := byte(s.below(256))
			if i%2 == 0 {
				other = s.pick(" \n(){};=|+-*<_>", "abcxyz", "NCPLTI", "0123456789")[s.below(4)]
			}
			switch s.below(3) {
			case 0:
				src[at] = other
			case 1:
				src = slices.Insert(src, at, other)
			default:
				if len(src) > 1 {
					src = slices.Delete(src, at, at+1)
				}
			}
		}
		_, code := holdText(t, string(src))
		met[code]++
	}
	if met[impl.BdDone] < 70 || met[impl.BdParse] < 500 || met[impl.BdType] < 70 {
		t.Errorf("the codes are %v", met)
	}
}

// Any bytes, and any words.
func TestTextsOfAnything(t *testing.T) {
	s := steps(216)
	words := append(append(everySign(), everyKeyword()...), "x", "x", "1", "0", "N", "C", "Int")
	for i := range 4000 {
		var text []byte
		for range s.below(12) {
			if i%4 == 0 {
				text = append(text, byte(s.below(256)))
			} else {
				text = append(append(text, s.pick(words...)...), ' ')
			}
		}
		holdText(t, evalDatas+string(text))
		holdText(t, string(text))
	}
}

// All texts of few words.
func TestAllSmallTexts(t *testing.T) {
	met := map[int]int{}
	words := []string{"x", "1", "N", "fun", "->", "(", ")", "+", "case", "of", "{", "}"}
	var grow func(text string, left int)
	grow = func(text string, left int) {
		for _, src := range []string{text, "data N = N; case N of { x -> " + text + " }", "fun x -> " + text} {
			_, code := holdText(t, src)
			met[code]++
		}
		if left > 0 {
			for _, word := range words {
				grow(text+" "+word, left-1)
			}
		}
	}
	grow("", 3)
	if met[impl.BdDone] < 20 || met[impl.BdParse] < 1000 || met[impl.BdType] < 100 {
		t.Errorf("the codes are %v", met)
	}
}

// someTexts are of all codes.
func someTexts() []string {
	texts := []string{"", "1", "(", strings.Repeat("x", sourceBytes+1)}
	for _, c := range typedPrograms() {
		texts = append(texts, evalDatas+c[1])
	}
	for code := impl.BdDone; code <= impl.BdGen; code++ {
		for _, part := range faultyParts()[code] {
			texts = append(texts, buildDatas()+part+" + 1")
		}
	}
	return texts
}

// toldText is all that is told of a text.
func toldText(src string, i int) string {
	funs, code := impl.Build(src)
	m, how := impl.RunOf(src, 1+i%40, i%2 == 0, 10+i%200)
	text, is := impl.TypeOf(src)
	return toldFuns(funs) + " " + toldNumbers(code, how, is) + " " + text + " " + toldVm(m)
}

func toldNumbers(list ...int) string {
	var words []string
	for _, n := range list {
		words = append(words, impl.Digits(n))
	}
	return strings.Join(words, " ")
}

// The same call twice, and many calls at the same time, answer alike, however many of them go on at once.
func TestTextsAtTheSameTime(t *testing.T) {
	texts := someTexts()
	var want []string
	for i, src := range texts {
		want = append(want, toldText(src, i))
		if again := toldText(src, i); again != want[i] {
			t.Fatalf("%s is told as %s, and then as %s", ending(src), want[i], again)
		}
	}
	before := runtime.GOMAXPROCS(0)
	defer runtime.GOMAXPROCS(before)
	for _, many := range []int{1, 2, 8} {
		runtime.GOMAXPROCS(many)
		wrong := make(chan int, 20)
		var all sync.WaitGroup
		for n := range 20 {
			all.Add(1)
			go func() {
				defer all.Done()
				for k := range texts {
					if i := (k*7 + n*3) % len(texts); toldText(texts[i], i) != want[i] {
						wrong <- i
						return
					}
				}
			}()
		}
		all.Wait()
		close(wrong)
		for i := range wrong {
			t.Errorf("%s is told otherwise among %d", ending(texts[i]), many)
		}
	}
}

// Whatever a text is, none of what a call began goes on behind it.
func TestNothingGoesOnBehindACall(t *testing.T) {
	before := runtime.GOMAXPROCS(1)
	defer runtime.GOMAXPROCS(before)
	time.Sleep(time.Millisecond)
	begun := runtime.NumGoroutine()
	more, calls := 0, 0
	for range 5 {
		for _, src := range someTexts() {
			for _, ask := range []func(){func() { impl.Build(src) }, func() { impl.RunOf(src, 20, true, 20) }, func() { impl.TypeOf(src) }} {
				ask()
				calls++
				if runtime.NumGoroutine() > begun {
					more++
				}
			}
		}
	}
	// One may be halted, by chance, just ahead of its last step.
	if more > calls/20 {
		t.Errorf("behind %d of %d calls something goes on", more, calls)
	}
	for range 1000 {
		if runtime.NumGoroutine() <= begun {
			return
		}
		time.Sleep(time.Millisecond)
	}
	t.Errorf("at last there are %d, not %d", runtime.NumGoroutine(), begun)
}

// What is answered is new, and shares nothing with another answer, with itself, or with the text.
func TestBuiltIsNewMemory(t *testing.T) {
	s := steps(217)
	texts := someTexts()
	for i := range 300 {
		texts = append(texts, impl.Write(s.wholeProg(1+i%6)))
	}
	for i, src := range texts {
		src = strings.Clone(src)
		kept := strings.Clone(src)
		want := toldText(src, i)
		var lists, strs pieces
		strs.addText(src)
		var spoil []func()
		for range 2 {
			funs, _ := impl.Build(src)
			addFuns(&lists, funs)
			m, _ := impl.RunOf(src, 1+i%40, i%2 == 0, 10+i%200)
			addVm(&lists, m)
			text, _ := impl.TypeOf(src)
			strs.addText(text)
			spoil = append(spoil, func() { spoilFuns(funs); spoilVm(m) })
		}
		if lists.overlap() || strs.overlap() {
			t.Fatalf("what is told of %s shares memory", ending(src))
		}
		for _, write := range spoil {
			write()
			if again := toldText(src, i); again != want {
				t.Fatalf("%s is told as %s, and then as %s", ending(src), want, again)
			}
		}
		if src != kept {
			t.Fatalf("%s is written into", ending(kept))
		}
	}
}
