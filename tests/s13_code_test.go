package tests

import (
	"math"
	"math/big"
	"strings"
	"testing"

	"loop.example/g00323/impl"
)

func wantOpText(t *testing.T, o impl.Op, want string) {
	t.Helper()
	if got := impl.OpText(o); got != want {
		t.Errorf("OpText(%v) is %q, not %q", o, got, want)
	}
}

func TestOpTextOfEachCode(t *testing.T) {
	for code, name := range map[int]string{impl.BcNum: "num", impl.BcLocal: "local", impl.BcFree: "free", impl.BcSelf: "self", impl.BcClos: "clos", impl.BcCall: "call", impl.BcRet: "ret", impl.BcCon: "con", impl.BcField: "field", impl.BcIsCon: "iscon", impl.BcIsNum: "isnum", impl.BcAdd: "add", impl.BcSub: "sub", impl.BcMul: "mul", impl.BcLess: "less", impl.BcSame: "same", impl.BcPut: "put", impl.BcZero: "zero", impl.BcJump: "jump", impl.BcSlide: "slide", impl.BcFail: "fail"} {
		// N and M are told of each, whether it names them or not.
		wantOpText(t, anOp(code, 0, 0), name+" 0 0")
		wantOpText(t, anOp(code, 2, 7), name+" 2 7")
		wantOpText(t, anOp(code, 7, 0), name+" 7 0")
		wantOpText(t, anOp(code, 0, 7), name+" 0 7")
		wantOpText(t, anOp(code, -5, 3), name+" -5 3")
		wantOpText(t, anOp(code, 3, -5), name+" 3 -5")
		wantOpText(t, anOp(code, -1073741824, 1073741823), name+" -1073741824 1073741823")
		wantOpText(t, anOp(code, math.MinInt, math.MaxInt), name+" -9223372036854775808 9223372036854775807")
		wantOpText(t, anOp(code, math.MaxInt, math.MinInt), name+" 9223372036854775807 -9223372036854775808")
	}
}

func TestOpTextOfOtherNumbers(t *testing.T) {
	for _, n := range edgeNumbers() {
		digits := big.NewInt(int64(n)).String()
		for code := 1; code <= 21; code++ {
			wantOpText(t, anOp(code, n, 12), codeName(code)+" "+digits+" 12")
			wantOpText(t, anOp(code, -12, n), codeName(code)+" -12 "+digits)
			wantOpText(t, anOp(code, n, n), codeName(code)+" "+digits+" "+digits)
		}
	}
}

func TestOpTextOfNoCode(t *testing.T) {
	codes := append(edgeNumbers(), 0, 22, 23, 24, 42, 43, 63, 64, 127, 128, 255, 256, 257, -1, -2, -21, -22, math.MinInt, math.MinInt+1, math.MaxInt, math.MaxInt-1)
	for code := -300; code < 600; code++ {
		codes = append(codes, code, code<<8, code<<16, code<<32)
	}
	none := 0
	for _, code := range codes {
		for _, n := range []int{0, 1, -1, 7, math.MinInt, math.MaxInt} {
			got := impl.OpText(anOp(code, n, -n))
			if (got == "") != (code < 1 || code > 21) || got != opTextBy(anOp(code, n, -n)) {
				t.Errorf("OpText of code %d is %q", code, got)
			}
			if got == "" {
				none++
			}
		}
	}
	if none < 20000 {
		t.Errorf("%d are no codes", none)
	}
	wantOpText(t, impl.Op{}, "")
	wantOpText(t, anOp(0, 2, 7), "")
	wantOpText(t, anOp(22, 2, 7), "")
	wantOpText(t, anOp(-1, 0, 0), "")
}

// A text tells the place: no two that are unlike have one, and it is three words with one blank between.
func TestOpTextTellsThePlace(t *testing.T) {
	met := map[string]impl.Op{}
	numbers := []int{math.MinInt, least, -11, -1, 0, 1, 2, 10, 11, 12, 111, greatest, math.MaxInt}
	for code := 1; code <= 21; code++ {
		for _, n := range numbers {
			for _, m := range numbers {
				o := anOp(code, n, m)
				text := impl.OpText(o)
				if other, is := met[text]; is {
					t.Fatalf("%v and %v are both %q", other, o, text)
				}
				met[text] = o
				if words := strings.Fields(text); len(words) != 3 || strings.Join(words, " ") != text || words[0] != strings.ToLower(words[0]) {
					t.Fatalf("OpText(%v) is %q", o, text)
				}
			}
		}
	}
}

// What an answer is made of is nobody else's.
func TestOpTextIsTheSameEachTime(t *testing.T) {
	first := impl.OpText(anOp(impl.BcIsCon, 2, 7))
	for code := -1; code < 30; code++ {
		impl.OpText(anOp(code, 5, 5))
	}
	if again := impl.OpText(anOp(impl.BcIsCon, 2, 7)); first != "iscon 2 7" || again != first {
		t.Errorf("it is %q, then %q", first, again)
	}
}
