package tests

import (
	"bytes"
	"math"
	"slices"
	"testing"

	"loop.example/g00323/impl"
)

// nought is how an N of 0 is written.
const nought = "\x80\x80\x80\x80\x04"

func TestFunsAsBytes(t *testing.T) {
	for _, c := range []struct {
		row  string
		list []impl.Fun
	}{
		{"\x01" + "\x00\x01" + "\x07" + nought + "\x00", []impl.Fun{aFunction(0, retOp())}},
		{"\x01" + "\x00\x02" + "\x01\xff\xff\xff\xff\x03\x00" + "\x07" + nought + "\x00", []impl.Fun{aFunction(0, anOp(impl.BcNum, -1, 0), retOp())}},
		{"\x01" + "\x00\x03" + "\x01\x00\x00" + "\x01\xff\xff\xff\xff\x07\x00" + "\x15" + nought + "\x00", []impl.Fun{aFunction(0, anOp(impl.BcNum, -1073741824, 0), anOp(impl.BcNum, 1073741823, 0), anOp(impl.BcFail, 0, 0))}},
		{"\x01" + "\x00\x02" + "\x0b\x00\x01" + "\x13\x81\x80\x80\x80\x04\x00", []impl.Fun{aFunction(0, anOp(impl.BcIsNum, -1073741824, 1), anOp(impl.BcJump, 1, 0))}},
		{"\x01" + "\x00\x02" + "\x08\xbb\x80\x80\x80\x04\x14" + "\x07" + nought + "\x00", []impl.Fun{aFunction(0, anOp(impl.BcCon, 59, 20), retOp())}},
		{"\x02" + "\x00\x02" + "\x05\x81\x80\x80\x80\x04\x02" + "\x07" + nought + "\x00" + "\x02\x01" + "\x07" + nought + "\x00", []impl.Fun{aFunction(0, anOp(impl.BcClos, 1, 2), retOp()), aFunction(2, retOp())}},
		{"\x02" + "\x00\x01" + "\x07" + nought + "\x00" + "\x14\x02" + "\x03\x93\x80\x80\x80\x04\x00" + "\x15" + nought + "\x00", []impl.Fun{aFunction(0, retOp()), aFunction(20, anOp(impl.BcFree, 19, 0), anOp(impl.BcFail, 0, 0))}},
	} {
		wantRead(t, []byte(c.row), c.list)
		holdFunsWritten(t, c.list)
		holdFunsRead(t, []byte(c.row))
	}
	// A hundred and thirty places: how many there are takes two bytes, as does a place to which one leads.
	places := slices.Repeat([]impl.Op{anOp(impl.BcIsCon, 0, 128)}, 130)
	places[129] = retOp()
	want := "\x01\x00\x82\x01"
	for range 129 {
		want += "\x0a" + nought + "\x80\x01"
	}
	wantRead(t, []byte(want+"\x07"+nought+"\x00"), []impl.Fun{{List: places}})
}

// Each Code with N and M at both ends, in each function: written and read where it is right, else nothing.
func TestFunsBytesOfEachCode(t *testing.T) {
	met := map[bool]int{}
	for code := -1; code <= 23; code++ {
		numbers := []int{math.MinInt, least - 1, least, least + 1, -1, 0, 1, 2, 3, 4, 19, 20, 21, 59, 60, 2999, 3000, greatest - 1, greatest, greatest + 1, math.MaxInt}
		for _, n := range numbers {
			for _, m := range numbers {
				for _, number := range []int{0, 1, 4} {
					list := fiveFuns()
					list[number].List[1] = anOp(code, n, m)
					met[holdFunsWritten(t, list)]++
				}
			}
		}
	}
	if met[true] < 400 || met[false] < 20000 {
		t.Errorf("functions are written %v times", met)
	}
}

func TestFunsBytesOfEachWord(t *testing.T) {
	for _, n := range edgeNumbers() {
		list := []impl.Fun{aFunction(0, anOp(impl.BcNum, n, 0), anOp(impl.BcIsNum, n, 2), retOp())}
		if got := holdFunsWritten(t, list); got != (least <= n && n <= greatest) {
			t.Errorf("with %d it is written: %v", n, got)
		}
	}
}

func TestFunsBytesOfWhatIsNotRight(t *testing.T) {
	long := slices.Repeat([]impl.Op{retOp()}, 3001)
	for i, list := range [][]impl.Fun{
		nil, {}, {{}}, {aFunction(0)}, {aFunction(1, retOp())}, {aFunction(-1, retOp())}, {aFunction(0, oneOp())}, {aFunction(0, retOp()), {}},
		{aFunction(0, retOp()), aFunction(21, retOp())}, {aFunction(0, retOp()), aFunction(-1, retOp())}, {aFunction(0, retOp()), aFunction(math.MinInt, retOp())},
		{aFunction(0, anOp(0, 0, 0), retOp())}, {aFunction(0, anOp(22, 0, 0), retOp())}, {aFunction(0, anOp(impl.BcNum, 1, 1), retOp())}, {aFunction(0, anOp(impl.BcNum, greatest+1, 0), retOp())}, {aFunction(0, anOp(impl.BcNum, least-1, 0), retOp())},
		{aFunction(0, anOp(impl.BcJump, 1, 0))}, {aFunction(0, anOp(impl.BcRet, 0, -1))}, {aFunction(0, anOp(impl.BcSelf, 0, 0), retOp())}, {aFunction(0, anOp(impl.BcClos, 1, 0), retOp())}, {aFunction(0, anOp(impl.BcFree, 0, 0), retOp())},
		{{List: long}}, {aFunction(0, retOp()), {List: long}}, manyFuns(61), slices.Repeat([]impl.Fun{aFunction(0, retOp())}, 61), make([]impl.Fun, 60),
	} {
		if got := impl.FunsBytes(list); len(got) != 0 || holdFunsWritten(t, list) {
			t.Errorf("list %d is written as %.100v", i, got)
		}
		// Nor is it read, where it can be written down at all.
		if nums := numsOf(list); !slices.ContainsFunc(nums, func(n int) bool { return n < 0 || n > numMost }) {
			wantNotRead(t, rowOf(nums...), "it is not right")
		}
	}
}

func TestFunsAsBytesAtTheLimits(t *testing.T) {
	for _, many := range []int{1, 2, 59, 60, 61, 62, 127, 128, 129} {
		list := manyFuns(many)
		if got := holdFunsWritten(t, list); got != (many <= blocksMost) {
			t.Errorf("%d functions are written: %v", many, got)
		}
		if got := holdFunsRead(t, rowOf(numsOf(list)...)); got != (many <= blocksMost) {
			t.Errorf("%d functions are read: %v", many, got)
		}
	}
	for _, many := range []int{0, 1, 127, 128, 2999, 3000, 3001, 16383, 16384} {
		for number := range 5 {
			list := fiveFuns()
			list[number].List = slices.Repeat([]impl.Op{retOp()}, many)
			want := 1 <= many && many <= placesMost
			if got := holdFunsWritten(t, list); got != want {
				t.Errorf("%d places are written: %v", many, got)
			}
			if got := holdFunsRead(t, rowOf(numsOf(list)...)); got != want {
				t.Errorf("%d places are read: %v", many, got)
			}
		}
	}
	for free := range 25 {
		list := []impl.Fun{aFunction(0, anOp(impl.BcClos, 1, free), retOp()), aFunction(free, retOp())}
		if got := holdFunsRead(t, rowOf(numsOf(list)...)); got != (free <= keptMost) || got != holdFunsWritten(t, list) {
			t.Errorf("where %d are kept it is read: %v", free, got)
		}
	}
	full := slices.Repeat([]impl.Fun{{List: slices.Repeat([]impl.Op{anOp(impl.BcIsNum, least, 2999), anOp(impl.BcFail, 0, 0)}, 1500)}}, 60)
	if !holdFunsWritten(t, full) {
		t.Error("as much as there may be is not written")
	}
}

// someFuns are lists that are right, small enough that each byte of them may be changed.
func someFuns() [][]impl.Fun {
	return [][]impl.Fun{
		{aFunction(0, retOp())},
		{aFunction(0, anOp(impl.BcFail, 0, 0))},
		{aFunction(0, opsOf("num 3, isnum 7 4, num -1, jump 5, num 2, ret")...)},
		{aFunction(0, anOp(impl.BcNum, least, 0), anOp(impl.BcNum, greatest, 0), anOp(impl.BcNum, -1, 0), anOp(impl.BcAdd, 0, 0), anOp(impl.BcSlide, 0, 0), retOp())},
		{aFunction(0, opsOf("num 4, clos 1 1, ret")...), aFunction(1, opsOf("local 0, free 0, add, ret")...)},
		{aFunction(0, opsOf("clos 1 0, clos 2 0, call, ret")...), aFunction(0, opsOf("self, ret")...), aFunction(0, opsOf("local 0, put, ret")...)},
		{aFunction(0, opsOf("num 1, num 2, con 5 2, iscon 5 6, num 0, ret, fail")...)},
		fiveFuns(),
	}
}

func TestFunsOfEachByteChanged(t *testing.T) {
	met := map[bool]int{}
	for _, list := range someFuns() {
		row := impl.FunsBytes(list)
		for at := range row {
			for b := range 256 {
				other := slices.Clone(row)
				other[at] = byte(b)
				read := holdFunsRead(t, other)
				met[read]++
				if got, _ := impl.FunsOf(other); sameFuns(got, list) != bytes.Equal(other, row) {
					t.Fatalf("%v and %v are both read as %.300s", row, other, toldFuns(list))
				}
			}
		}
	}
	if met[true] < 10000 || met[false] < 60000 {
		t.Errorf("with a byte changed it is read %v times", met)
	}
}

func TestFunsOfEachBytePutInOrTakenAway(t *testing.T) {
	met := map[bool]int{}
	for _, list := range someFuns() {
		row := impl.FunsBytes(list)
		for at := 0; at <= len(row); at++ {
			for b := range 256 {
				met[holdFunsRead(t, slices.Insert(slices.Clone(row), at, byte(b)))]++
			}
		}
		for at := range row {
			for end := at + 1; end <= len(row); end++ {
				holdFunsRead(t, slices.Delete(slices.Clone(row), at, end))
			}
		}
	}
	if met[false] < 50000 {
		t.Errorf("with a byte put in it is read %v times", met)
	}
}

// What is cut off, and what has bytes behind its end, is none.
func TestFunsOfBytesThatBreakOff(t *testing.T) {
	for _, list := range someFuns() {
		row := impl.FunsBytes(list)
		for many := range row {
			wantNotRead(t, row[:many], "it is cut off")
			wantNotRead(t, row[:many:many], "it is cut off")
		}
		for b := range 256 {
			wantNotRead(t, append(slices.Clone(row), byte(b)), "there is a byte behind it")
		}
		for _, first := range row {
			wantNotRead(t, append([]byte{first}, row...), "there is a byte ahead of it")
		}
		wantNotRead(t, slices.Concat(row, row), "it is there twice")
		wantNotRead(t, slices.Concat(row, make([]byte, 100)), "there are bytes behind it")
		wantNotRead(t, slices.Concat(row, impl.PutNum(0)), "there is a number behind it")
		// What stands behind the end of the list is none of it.
		wantRead(t, roomBehind(row, 0), list)
		wantRead(t, append(slices.Clone(row), row...)[:len(row)], list)
	}
	wantNotRead(t, nil, "there are no bytes")
	wantNotRead(t, []byte{}, "there are no bytes")
	for a := range 256 {
		wantNotRead(t, []byte{byte(a)}, "there is one byte")
		for b := range 256 {
			wantNotRead(t, []byte{byte(a), byte(b)}, "there are two bytes")
		}
	}
}

func TestFunsOfWhatIsNotTheShortest(t *testing.T) {
	for _, list := range someFuns() {
		nums := numsOf(list)
		for i := range nums {
			for more := 1; more < 6; more++ {
				long := putBy(nums[i])
				long[len(long)-1] += 128
				long = append(long, bytes.Repeat([]byte{128}, more-1)...)
				long = append(long, 0)
				wantNotRead(t, slices.Concat(rowOf(nums[:i]...), long, rowOf(nums[i+1:]...)), "a number is not the shortest")
			}
		}
	}
}

// Each number of a list is another one: what comes of it is held against the second telling.
func TestFunsOfOtherNumbers(t *testing.T) {
	met := map[bool]int{}
	for _, list := range someFuns() {
		nums := numsOf(list)
		for i := range nums {
			for _, n := range []int{0, 1, 2, 3, 4, 5, 6, 7, 8, 19, 20, 21, 22, 59, 60, 61, 127, 128, 2999, 3000, 3001, 16384, 1073741823, 1073741824, 1073741825, 1073744824, 2147483646, 2147483647} {
				other := slices.Clone(nums)
				other[i] = n
				met[holdFunsRead(t, rowOf(other...))]++
			}
			holdFunsRead(t, rowOf(slices.Delete(slices.Clone(nums), i, i+1)...))
			// One more than there may be of any number.
			wantNotRead(t, slices.Concat(rowOf(nums[:i]...), []byte{128, 128, 128, 128, 8}, rowOf(nums[i+1:]...)), "a number is too great")
			wantNotRead(t, slices.Concat(rowOf(nums[:i]...), []byte{255, 255, 255, 255, 255, 255, 255, 255, 255, 1}, rowOf(nums[i+1:]...)), "a number is too great")
		}
	}
	if met[true] < 300 || met[false] < 2000 {
		t.Errorf("with another number it is read %v times", met)
	}
}

func TestFunsOfHowMany(t *testing.T) {
	ret := []int{0, 1, impl.BcRet, halfWords, 0}
	wantRead(t, rowOf(append([]int{1}, ret...)...), []impl.Fun{aFunction(0, retOp())})
	wantNotRead(t, rowOf(0), "there are no functions")
	wantNotRead(t, rowOf(append([]int{0}, ret...)...), "there are no functions")
	wantNotRead(t, rowOf(1, 0, 0), "there are no places")
	wantNotRead(t, rowOf(1, 0, 0, impl.BcRet, halfWords, 0), "there are no places")
	for _, many := range []int{2, 3, 59, 60, 61, 128, 3000, 16384, 1 << 20, 1 << 30, numMost} {
		wantNotRead(t, rowOf(many), "functions are lacking")
		wantNotRead(t, rowOf(append([]int{many}, ret...)...), "functions are lacking")
		wantNotRead(t, rowOf(append([]int{many}, slices.Repeat(ret, min(many-1, 3000))...)...), "a function is lacking")
		wantNotRead(t, rowOf(append([]int{many}, slices.Repeat([]int{0, 0}, min(many, 3000))...)...), "functions have no places")
		wantNotRead(t, rowOf(1, 0, many), "places are lacking")
		wantNotRead(t, rowOf(1, 0, many, impl.BcRet, halfWords, 0), "places are lacking")
		wantNotRead(t, rowOf(append([]int{1, 0, many}, slices.Repeat(ret[2:], min(many-1, 4000))...)...), "a place is lacking")
		wantNotRead(t, rowOf(append([]int{many, 0, many}, slices.Repeat(ret[2:], min(many-1, 4000))...)...), "places and functions are lacking")
		holdFunsRead(t, rowOf(append([]int{many}, slices.Repeat(ret, min(many, 3000))...)...))
		holdFunsRead(t, rowOf(append([]int{1, 0, many}, slices.Repeat(ret[2:], min(many, 4000))...)...))
	}
}

// Great rows are answered, whatever numbers they begin with.
func TestFunsOfGreatRows(t *testing.T) {
	const many = 2000000
	ends := []byte{7, 128, 128, 128, 128, 4, 0}
	quickly(t, "FunsOf", func() {
		for i, row := range [][]byte{
			make([]byte, many), bytes.Repeat([]byte{1}, many), bytes.Repeat([]byte{60}, many), bytes.Repeat([]byte{127}, many), bytes.Repeat([]byte{128}, many), bytes.Repeat([]byte{255}, many), bytes.Repeat([]byte{255, 255, 255, 255, 7}, many),
			append(rowOf(1, 0, numMost), bytes.Repeat(ends, many)...), append(rowOf(1, 0, many), bytes.Repeat(ends, many)...), append(rowOf(1, 0, placesMost), bytes.Repeat(ends, many)...),
			append(rowOf(numMost), make([]byte, many)...), append(rowOf(many/2), make([]byte, many)...), append(rowOf(many), bytes.Repeat(append([]byte{0, 1}, ends...), many)...),
			append(rowOf(60), bytes.Repeat(append([]byte{0, 1}, ends...), many)...),
		} {
			if list, ok := impl.FunsOf(row); ok || len(list) > 0 {
				t.Errorf("great row %d is read", i)
			}
		}
		places := slices.Repeat([]impl.Op{retOp()}, many)
		for i, list := range [][]impl.Fun{{{List: places}}, slices.Repeat([]impl.Fun{{List: places}}, many), make([]impl.Fun, many)} {
			if row := impl.FunsBytes(list); len(row) > 0 {
				t.Errorf("great list %d is written", i)
			}
		}
		full := slices.Repeat([]impl.Fun{{List: append(slices.Repeat([]impl.Op{oneOp()}, placesMost-1), retOp())}}, blocksMost)
		for range 20 {
			if list, ok := impl.FunsOf(impl.FunsBytes(full)); !ok || !sameFuns(list, full) {
				t.Error("as much as there may be is not read as it was")
			}
		}
	})
}
