package impl

import "strconv"

const (
	wordCount    = 1 << 31
	leastWord    = -wordCount / 2
	greatestWord = wordCount/2 - 1
	// wordDigits is how many digits the greatest word has.
	wordDigits = 10
)

// word has an int's room, so that a sum or product of words is whole until it goes round.
type word int

func (w word) ok() bool { return leastWord <= w && w <= greatestWord }

// round may overflow in its difference: an int wraps by a multiple of wordCount, so what is left stays right.
func (w word) round() word { return (w-leastWord)&(wordCount-1) + leastWord }

func (w word) digits() string { return strconv.Itoa(int(w)) }

func WordOk(n int) bool { return word(n).ok() }

func Round(n int) int { return int(word(n).round()) }

func Digits(n int) string { return word(n).digits() }

func Number(s string) (int, bool) {
	// A failed Atoi copies its text into the error: one without end is turned away ahead of it.
	if len(s) > wordDigits {
		return 0, false
	}
	n, err := strconv.Atoi(s)
	// Atoi takes signs and noughts ahead, which Digits never writes.
	if err != nil || n < 0 || !word(n).ok() || word(n).digits() != s {
		return 0, false
	}
	return n, true
}
