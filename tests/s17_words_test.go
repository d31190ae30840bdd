package tests

import (
	"math"
	"testing"

	"loop.example/g00323/impl"
)

func TestIntWord(t *testing.T) {
	for _, c := range []struct{ n, want int }{
		{0, 1}, {1, 3}, {-1, -1}, {2, 5}, {-2, -3}, {7, 15}, {-7, -13}, {100, 201}, {-100, -199},
		{greatest, 2147483647}, {greatest - 1, 2147483645}, {least, -2147483647}, {least + 1, -2147483645},
		{greatest + 1, 1}, {least - 1, 1}, {greatest + 2, 1}, {least - 2, 1}, {circle, 1}, {circle + 5, 1}, {-circle, 1},
		{math.MaxInt, 1}, {math.MinInt, 1}, {math.MaxInt - 1, 1}, {math.MinInt + 1, 1}, {1 << 62, 1}, {-1 << 62, 1}, {1<<62 + 3, 1},
	} {
		if got := impl.IntWord(c.n); got != c.want {
			t.Errorf("IntWord(%d) is %d, not %d", c.n, got, c.want)
		}
	}
}

func TestRefWord(t *testing.T) {
	for _, c := range []struct{ p, want int }{
		{0, 0}, {1, 2}, {2, 4}, {3, 6}, {59, 118}, {2999, 5998}, {3000, 6000}, {3001, 6002}, {5999, 11998}, {6000, 12000},
		{6001, 0}, {6002, 0}, {12000, 0}, {-1, 0}, {-2, 0}, {-6000, 0}, {-6001, 0}, {greatest, 0}, {least, 0},
		{math.MaxInt, 0}, {math.MinInt, 0}, {math.MinInt + 1, 0}, {math.MinInt + 3000, 0}, {1 << 62, 0}, {1<<62 + 1, 0}, {-1<<62 + 1, 0},
	} {
		if got := impl.RefWord(c.p); got != c.want {
			t.Errorf("RefWord(%d) is %d, not %d", c.p, got, c.want)
		}
	}
}

func TestIsRef(t *testing.T) {
	for _, w := range []int{0, 2, 4, 12000, -2, -4, -6, -12000, 1 << 40, -1 << 40, math.MinInt, math.MaxInt - 1} {
		if !impl.IsRef(w) {
			t.Errorf("%d is even, and IsRef is false", w)
		}
	}
	for _, w := range []int{1, 3, 5, 12001, -1, -3, -5, -12001, 1<<40 + 1, -1<<40 + 1, math.MinInt + 1, math.MaxInt} {
		if impl.IsRef(w) {
			t.Errorf("%d is odd, and IsRef is true", w)
		}
	}
}

func TestHalfOfAWord(t *testing.T) {
	for _, c := range []struct{ w, want int }{
		{0, 0}, {1, 0}, {2, 1}, {3, 1}, {4, 2}, {5, 2}, {12000, 6000}, {12001, 6000},
		{-1, -1}, {-2, -1}, {-3, -2}, {-4, -2}, {-5, -3}, {-6, -3}, {-7, -4}, {-12000, -6000}, {-12001, -6001},
		{2147483647, greatest}, {-2147483647, least}, {2147483649, greatest + 1}, {-2147483649, least - 1},
		{math.MaxInt, 1<<62 - 1}, {math.MaxInt - 1, 1<<62 - 1}, {math.MinInt, -1 << 62}, {math.MinInt + 1, -1 << 62}, {math.MinInt + 2, -1<<62 + 1},
	} {
		if got := impl.WordInt(c.w); got != c.want {
			t.Errorf("WordInt(%d) is %d, not %d", c.w, got, c.want)
		}
		if got := impl.WordRef(c.w); got != c.want {
			t.Errorf("WordRef(%d) is %d, not %d", c.w, got, c.want)
		}
	}
}

// Each word is read as it was, and the two kinds are never taken for each other.
func TestWordsAgainstTheSecondTelling(t *testing.T) {
	nums := edgeNumbers()
	for n := -20000; n <= 20000; n++ {
		nums = append(nums, n)
	}
	s := steps(171)
	for range 50000 {
		nums = append(nums, (s.below(1<<16)<<16+s.below(1<<16))<<s.below(32)-s.below(1<<16)<<s.below(48))
	}
	for _, n := range nums {
		i, r := impl.IntWord(n), impl.RefWord(n)
		wantI, wantR := 1, 0
		if least <= n && n <= greatest {
			wantI = intOf(n)
		}
		if 0 <= n && n <= 2*halfMost {
			wantR = refOf(n)
		}
		if i != wantI || r != wantR || impl.IsRef(i) || !impl.IsRef(r) {
			t.Fatalf("of %d IntWord is %d and RefWord %d", n, i, r)
		}
		if impl.WordOk(n) && impl.WordInt(i) != n || wantR > 0 && impl.WordRef(r) != n {
			t.Fatalf("%d is read as %d and %d", n, impl.WordInt(i), impl.WordRef(r))
		}
		if half := halfDown(n); impl.WordInt(n) != half || impl.WordRef(n) != half {
			t.Fatalf("half of %d is %d and %d, not %d", n, impl.WordInt(n), impl.WordRef(n), half)
		}
		if impl.IsRef(n) != (2*halfDown(n) == n) {
			t.Fatalf("IsRef(%d) is %v", n, impl.IsRef(n))
		}
	}
}
