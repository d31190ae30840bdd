package tests

import (
	"math"
	"math/big"
	"strings"
	"testing"

	"loop.example/g00323/impl"
)

// The bounds are written out, as the document has them, and not taken from the program.
const (
	least    = -1073741824
	greatest = 1073741823
	circle   = 2147483648
)

// edgeNumbers: each bound and power of two with its neighbours, and some ordinary numbers between.
func edgeNumbers() []int {
	list := []int{0, 7, -7, 10, -10, 70, -70, 100, 1000000000, -1000000000, 12345678901, -12345678901}
	near := []int{0, least, greatest, circle, -circle, 3 * circle / 2, -3 * circle / 2, math.MinInt, math.MaxInt}
	for bit := 0; bit < 63; bit++ {
		near = append(near, 1<<bit, -1<<bit)
	}
	for _, n := range near {
		for d := -3; d <= 3; d++ {
			list = append(list, n+d)
		}
	}
	return list
}

// gone: n gone round, by numbers without end.
func gone(n *big.Int) int {
	left := new(big.Int).Mod(n, big.NewInt(circle)).Int64()
	if left > greatest {
		left -= circle
	}
	return int(left)
}

func TestWordOkEdges(t *testing.T) {
	for _, c := range []struct {
		n    int
		want bool
	}{
		{0, true}, {1, true}, {-1, true}, {70, true}, {-70, true},
		{least, true}, {least + 1, true}, {least - 1, false},
		{greatest, true}, {greatest - 1, true}, {greatest + 1, false},
		{circle, false}, {-circle, false}, {2 * circle, false},
		{math.MinInt, false}, {math.MinInt + 1, false}, {math.MaxInt, false}, {math.MaxInt - 1, false},
	} {
		if got := impl.WordOk(c.n); got != c.want {
			t.Errorf("WordOk(%d) is %v", c.n, got)
		}
	}
}

func TestRoundEdges(t *testing.T) {
	for _, c := range []struct{ n, want int }{
		{0, 0}, {1, 1}, {-1, -1}, {70, 70}, {-70, -70},
		{least, least}, {least + 1, least + 1}, {least - 1, greatest}, {least - 2, greatest - 1},
		{greatest, greatest}, {greatest - 1, greatest - 1}, {greatest + 1, least}, {greatest + 2, least + 1},
		{circle, 0}, {-circle, 0}, {circle - 1, -1}, {circle + 1, 1}, {-circle - 1, -1}, {-circle + 1, 1},
		{3 * circle / 2, least}, {-3 * circle / 2, least}, {3*circle/2 - 1, greatest}, {-3*circle/2 - 1, greatest},
		{math.MinInt, 0}, {math.MinInt + 1, 1}, {math.MaxInt, -1}, {math.MaxInt - 1, -2},
	} {
		if got := impl.Round(c.n); got != c.want {
			t.Errorf("Round(%d) is %d, not %d", c.n, got, c.want)
		}
	}
}

func TestWhatGoesRoundIsAWord(t *testing.T) {
	for _, n := range edgeNumbers() {
		got := impl.Round(n)
		if !impl.WordOk(got) || got < least || got > greatest {
			t.Errorf("Round(%d) is %d, which is no word", n, got)
		}
		if want := gone(big.NewInt(int64(n))); got != want {
			t.Errorf("Round(%d) is %d, not %d", n, got, want)
		}
		if impl.Round(got) != got {
			t.Errorf("Round(%d) is %d, which goes on", n, got)
		}
		if impl.WordOk(n) != (n >= least && n <= greatest) || impl.WordOk(n) != (got == n) {
			t.Errorf("WordOk(%d) is %v, Round of it %d", n, impl.WordOk(n), got)
		}
	}
}

func TestReckoningsGoRound(t *testing.T) {
	words := []int{least, least + 1, -46341, -7, -1, 0, 1, 2, 3, 10, 32768, 46341, 1000000007 / 2, greatest - 1, greatest}
	for _, a := range words {
		for _, b := range words {
			x, y := big.NewInt(int64(a)), big.NewInt(int64(b))
			if got := impl.Round(a + b); got != gone(new(big.Int).Add(x, y)) {
				t.Errorf("%d + %d is %d", a, b, got)
			}
			if got := impl.Round(a - b); got != gone(new(big.Int).Sub(x, y)) {
				t.Errorf("%d - %d is %d", a, b, got)
			}
			if got := impl.Round(a * b); got != gone(new(big.Int).Mul(x, y)) {
				t.Errorf("%d * %d is %d", a, b, got)
			}
		}
	}
}

func TestDigitsEdges(t *testing.T) {
	for _, c := range []struct {
		n    int
		want string
	}{
		{0, "0"}, {1, "1"}, {-1, "-1"}, {9, "9"}, {10, "10"}, {-10, "-10"}, {100, "100"}, {907, "907"}, {-70, "-70"},
		{least, "-1073741824"}, {least - 1, "-1073741825"},
		{greatest, "1073741823"}, {greatest + 1, "1073741824"},
		{math.MinInt, "-9223372036854775808"}, {math.MaxInt, "9223372036854775807"},
	} {
		if got := impl.Digits(c.n); got != c.want {
			t.Errorf("Digits(%d) is %q", c.n, got)
		}
	}
	for _, n := range edgeNumbers() {
		if got, want := impl.Digits(n), big.NewInt(int64(n)).String(); got != want {
			t.Errorf("Digits(%d) is %q", n, got)
		}
	}
}

func TestNumberOfDigits(t *testing.T) {
	for _, n := range edgeNumbers() {
		got, ok := impl.Number(impl.Digits(n))
		if n >= 0 && n <= greatest {
			if got != n || !ok {
				t.Errorf("Number of the digits of %d is %d and %v", n, got, ok)
			}
		} else if got != 0 || ok {
			t.Errorf("Number of the digits of %d, which is no word from 0 on, is %d and %v", n, got, ok)
		}
	}
	for _, c := range []struct {
		s    string
		want int
	}{{"0", 0}, {"1", 1}, {"9", 9}, {"10", 10}, {"100", 100}, {"305", 305}, {"1000000000", 1000000000}, {"1073741822", greatest - 1}, {"1073741823", greatest}} {
		if got, ok := impl.Number(c.s); got != c.want || !ok {
			t.Errorf("Number(%q) is %d and %v", c.s, got, ok)
		}
	}
}

// noNumbers: texts of which Digits writes none from 0 on.
func noNumbers() []string {
	list := []string{
		"",
		"00", "01", "05", "007", "000", "0000000001", "01073741823", "00000000000000000000000000",
		"-", "+", "-0", "+0", "-1", "+1", "--1", "-1073741824", "+1073741823", "1-", "1+",
		" ", " 1", "1 ", "1 2", "1\n", "\n1", "1\x00", "\x001", "1\t", "1\r",
		"x", "x1", "1x", "1x1", "1_0", "1_000", "1,000", "1.0", "1.", ".1", "1e3", "0x1", "0b1", "0o7", "1A", "1/2", "1:2",
		"\xff", "1\xff", "\u00b2", "\u0661", "\uff11", "1\u0661", "\u2212" + "1",
		"1073741824", "1073741825", "1073741830", "1073741900", "1100000000", "2000000000", "9999999999",
		"2147483647", "2147483648", "2147483649", "4294967296", "4294967297",
		"10737418230", "10000000000", "9223372036854775807", "9223372036854775808", "18446744073709551616", "18446744073709551617",
		"36893488147419103233", "340282366920938463463374607431768211457",
	}
	for _, run := range []string{"0", "1", "9", "10", "x"} {
		for _, many := range []int{11, 20, 64, 1000, 1000000} {
			list = append(list, strings.Repeat(run, many))
		}
	}
	return list
}

func TestNumberOfOtherTexts(t *testing.T) {
	for _, s := range noNumbers() {
		if n, ok := impl.Number(s); n != 0 || ok {
			if len(s) > 60 {
				s = s[:60] + ".."
			}
			t.Errorf("Number(%q) is %d and %v", s, n, ok)
		}
	}
}

// TestNumberOfShortTexts holds every text of at most two bytes, and of three and four of a few bytes, against the texts that Digits writes.
func TestNumberOfShortTexts(t *testing.T) {
	written := map[string]int{}
	for n := 0; n < 10000; n++ {
		written[big.NewInt(int64(n)).String()] = n
	}
	check := func(s string) {
		want, is := written[s]
		if n, ok := impl.Number(s); n != want || ok != is {
			t.Errorf("Number(%q) is %d and %v", s, n, ok)
		}
	}
	for a := 0; a < 256; a++ {
		check(string([]byte{byte(a)}))
		for b := 0; b < 256; b++ {
			check(string([]byte{byte(a), byte(b)}))
		}
	}
	few := []byte("0159/:+-_ .exX\n\x00\x80")
	for _, a := range few {
		for _, b := range few {
			for _, c := range few {
				check(string([]byte{a, b, c}))
				for _, d := range few {
					check(string([]byte{a, b, c, d}))
				}
			}
		}
	}
}
