package tests

import (
	"bytes"
	"encoding/binary"
	"slices"
	"testing"

	"loop.example/g00323/impl"
)

const (
	numMost = 2147483647
	// halfWords is what is added to each N.
	halfWords = 1073741824
)

// putBy is the second telling of PutNum, by the library's numbers of seven bits a byte.
func putBy(n int) []byte {
	if n < 0 || n > numMost {
		return nil
	}
	return binary.AppendUvarint(nil, uint64(n))
}

// getBy is the second telling of GetNum: it looks for a row of bytes there that would be put.
func getBy(b []byte, at int) (int, int, bool) {
	if at < 0 || at >= len(b) {
		return 0, 0, false
	}
	for many := 1; many <= 5 && many <= len(b)-at; many++ {
		row := b[at : at+many]
		if n, _ := binary.Uvarint(row); n <= numMost && bytes.Equal(putBy(int(n)), row) {
			return int(n), at + many, true
		}
	}
	return 0, 0, false
}

func holdGet(t *testing.T, b []byte, at int) bool {
	t.Helper()
	n, next, ok := impl.GetNum(b, at)
	wantN, wantNext, want := getBy(b, at)
	if n != wantN || next != wantNext || ok != want {
		t.Fatalf("GetNum(%.100v, %d) is %d, %d and %v, not %d, %d and %v", b, at, n, next, ok, wantN, wantNext, want)
	}
	return ok
}

// numsOf are the numbers of which functions are written, right or not.
func numsOf(list []impl.Fun) []int {
	nums := []int{len(list)}
	for _, f := range list {
		nums = append(nums, f.Free, len(f.List))
		for _, o := range f.List {
			nums = append(nums, o.Code, o.N+halfWords, o.M)
		}
	}
	return nums
}

// rowOf is numbers one behind the other; nothing stands where there is no number.
func rowOf(nums ...int) []byte {
	var row []byte
	for _, n := range nums {
		row = append(row, putBy(n)...)
	}
	return row
}

func bytesBy(list []impl.Fun) []byte {
	if !funsOkBy(list) {
		return nil
	}
	return rowOf(numsOf(list)...)
}

// numsIn are the numbers of a row; false where it is not made of such.
func numsIn(row []byte) ([]int, bool) {
	var nums []int
	for at := 0; at < len(row); {
		n, next, ok := getBy(row, at)
		if !ok {
			return nil, false
		}
		nums, at = append(nums, n), next
	}
	return nums, true
}

// funsBy is the second telling of FunsOf: all numbers are read first, and what comes of them is held against what would be written.
func funsBy(row []byte) ([]impl.Fun, bool) {
	nums, ok := numsIn(row)
	if !ok {
		return nil, false
	}
	next := func() int {
		if len(nums) == 0 {
			ok = false
			return 0
		}
		n := nums[0]
		nums = nums[1:]
		return n
	}
	var list []impl.Fun
	for left := next(); left > 0 && ok; left-- {
		f := impl.Fun{Free: next()}
		for places := next(); places > 0 && ok; places-- {
			code, n, m := next(), next(), next()
			f.List = append(f.List, anOp(code, n-halfWords, m))
		}
		list = append(list, f)
	}
	if want := bytesBy(list); !ok || len(want) == 0 || !bytes.Equal(want, row) {
		return nil, false
	}
	return list, true
}

func sameFuns(a, b []impl.Fun) bool {
	return slices.EqualFunc(a, b, func(x, y impl.Fun) bool { return x.Free == y.Free && slices.Equal(x.List, y.List) })
}

// holdFunsWritten holds the promise of a list: where it is right it is written, and read as it was; else it is nothing.
func holdFunsWritten(t *testing.T, list []impl.Fun) bool {
	t.Helper()
	row := impl.FunsBytes(list)
	if want := bytesBy(list); !bytes.Equal(row, want) {
		t.Fatalf("FunsBytes(%.500s) is %.300v, not %.300v", toldFuns(list), row, want)
	}
	if (len(row) > 0) != impl.FunsOk(list) {
		t.Fatalf("FunsBytes(%.500s) is %.300v", toldFuns(list), row)
	}
	if len(row) == 0 {
		return false
	}
	if read, ok := impl.FunsOf(row); !ok || !sameFuns(read, list) {
		t.Fatalf("%.500s is read as %v and %.500s", toldFuns(list), ok, toldFuns(read))
	}
	return true
}

// holdFunsRead holds the promise of a row: where it is read, the same bytes are written of what was read.
func holdFunsRead(t *testing.T, row []byte) bool {
	t.Helper()
	list, ok := impl.FunsOf(row)
	want, wantOk := funsBy(row)
	if ok != wantOk || !sameFuns(list, want) {
		t.Fatalf("FunsOf(%.500v) is %v and %.500s, not %v and %.500s", row, ok, toldFuns(list), wantOk, toldFuns(want))
	}
	if !ok {
		if len(list) > 0 {
			t.Fatalf("FunsOf(%.500v) is false and %.500s", row, toldFuns(list))
		}
		return false
	}
	if again := impl.FunsBytes(list); !bytes.Equal(again, row) {
		t.Fatalf("%.500v is written again as %.500v", row, again)
	}
	return true
}

func wantNotRead(t *testing.T, row []byte, why string) {
	t.Helper()
	if list, ok := impl.FunsOf(row); ok || len(list) > 0 {
		t.Errorf("%s: FunsOf(%.300v) is %v and %.300s", why, row, ok, toldFuns(list))
	}
	if _, ok := funsBy(row); ok {
		t.Errorf("%s: the second telling of FunsOf(%.300v) is true", why, row)
	}
}

func wantRead(t *testing.T, row []byte, want []impl.Fun) {
	t.Helper()
	if list, ok := impl.FunsOf(row); !ok || !sameFuns(list, want) {
		t.Errorf("FunsOf(%.300v) is %v and %.300s, not %.300s", row, ok, toldFuns(list), toldFuns(want))
	}
	if got := impl.FunsBytes(want); !bytes.Equal(got, row) {
		t.Errorf("FunsBytes(%.300s) is %.300v, not %.300v", toldFuns(want), got, row)
	}
}
