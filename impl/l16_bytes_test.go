package impl

import (
	"bytes"
	"testing"
)

// Where a number is taken, the place is behind it; what is taken next begins there.
func TestTakeNum(t *testing.T) {
	b := []byte{5, 172, 2, 0, 255, 255, 255, 255, 7, 128, 1}
	at, n := 0, 77
	for _, want := range []struct{ n, at int }{{5, 1}, {300, 3}, {0, 4}, {2147483647, 9}, {128, 11}} {
		if ok := takeNum(b, &at, &n); !ok || n != want.n || at != want.at {
			t.Fatalf("taken is %d up to %d: %v", n, at, ok)
		}
	}
	for range 2 {
		if takeNum(b, &at, &n) || at != len(b) {
			t.Fatalf("behind the end there is %d up to %d", n, at)
		}
	}
	at = -1
	if takeNum(b, &at, &n) || at != -1 {
		t.Errorf("ahead of the first one there is %d up to %d", n, at)
	}
}

func TestTakeNums(t *testing.T) {
	at, first, second, third := 1, 0, 0, 77
	if !takeNums([]byte{9, 1, 128, 1, 3}, &at, &first, &second) || first != 1 || second != 128 || at != 4 {
		t.Errorf("taken are %d and %d up to %d", first, second, at)
	}
	if takeNums([]byte{9, 1, 128, 0, 3}, &at, &first, &second, &third) {
		t.Error("there is one that is too long")
	}
	at = 0
	if takeNums([]byte{2, 128, 0, 3}, &at, &first, &second, &third) || first != 2 || third != 77 {
		t.Errorf("behind one that is none, %d is taken", third)
	}
	if !takeNums(nil, &at) || !bytes.Equal(putNums([]byte{9}, 1, 128, 0), []byte{9, 1, 128, 1, 0}) {
		t.Error("of no numbers it is false, or they are put otherwise")
	}
}

// No room is made for more than there may be.
func TestTakeFunsOfManyNumbers(t *testing.T) {
	for _, many := range []int{MaxBlocks + 1, 1 << 20, greatestNum} {
		at := 0
		if list, ok := takeFuns(putNums(nil, many, 0, 0), &at); ok || list != nil {
			t.Errorf("of %d functions there are %d", many, len(list))
		}
	}
	for _, many := range []int{MaxPlaces + 1, 1 << 20, greatestNum} {
		var f Fun
		at := 0
		if takeFun(putNums(nil, 0, many), &at, &f) || f.List != nil {
			t.Errorf("of %d places there are %d", many, len(f.List))
		}
	}
}
