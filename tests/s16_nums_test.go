package tests

import (
	"bytes"
	"math"
	"slices"
	"strings"
	"testing"

	"loop.example/g00323/impl"
)

// wantNum holds a number and its bytes, alone, behind others and with more behind it.
func wantNum(t *testing.T, n int, row ...byte) {
	t.Helper()
	if got := impl.PutNum(n); !bytes.Equal(got, row) {
		t.Errorf("PutNum(%d) is %v, not %v", n, got, row)
	}
	for _, ahead := range []string{"", "\x00", "\x05", "\x80", "\xff", "\xff\xff\xff\xff\xff\xff", "\x80\x80\x80\x80\x80\x80\x80\x80\x80"} {
		for _, behind := range []string{"", "\x00", "\x01", "\x7f", "\x80", "\xff", "\x80\x00", "\xff\xff\xff\xff\xff\xff"} {
			all := slices.Concat([]byte(ahead), row, []byte(behind))
			if got, next, ok := impl.GetNum(all, len(ahead)); !ok || got != n || next != len(ahead)+len(row) {
				t.Errorf("GetNum(%v, %d) is %d, %d and %v", all, len(ahead), got, next, ok)
			}
		}
	}
}

func wantNoNum(t *testing.T, row []byte, at int) {
	t.Helper()
	if n, next, ok := impl.GetNum(row, at); n != 0 || next != 0 || ok {
		t.Errorf("GetNum(%.100v, %d) is %d, %d and %v", row, at, n, next, ok)
	}
}

// Each number of bytes at its least and its greatest number, and some between.
func TestPutNum(t *testing.T) {
	wantNum(t, 0, 0)
	wantNum(t, 1, 1)
	wantNum(t, 9, 9)
	wantNum(t, 126, 126)
	wantNum(t, 127, 127)
	wantNum(t, 128, 128, 1)
	wantNum(t, 129, 129, 1)
	wantNum(t, 255, 255, 1)
	wantNum(t, 256, 128, 2)
	wantNum(t, 300, 172, 2)
	wantNum(t, 16383, 255, 127)
	wantNum(t, 16384, 128, 128, 1)
	wantNum(t, 16385, 129, 128, 1)
	wantNum(t, 65536, 128, 128, 4)
	wantNum(t, 2097151, 255, 255, 127)
	wantNum(t, 2097152, 128, 128, 128, 1)
	wantNum(t, 2097280, 128, 129, 128, 1)
	wantNum(t, 268435455, 255, 255, 255, 127)
	wantNum(t, 268435456, 128, 128, 128, 128, 1)
	wantNum(t, 1073741823, 255, 255, 255, 255, 3)
	wantNum(t, 1073741824, 128, 128, 128, 128, 4)
	wantNum(t, 1073741825, 129, 128, 128, 128, 4)
	wantNum(t, 2147483646, 254, 255, 255, 255, 7)
	wantNum(t, 2147483647, 255, 255, 255, 255, 7)
}

func TestPutNumOfOtherNumbers(t *testing.T) {
	for _, n := range []int{-1, -2, -127, -128, -129, -16384, -1073741824, -2147483647, -2147483648, 2147483648, 2147483649, 4294967295, 4294967296, 4294967297, 34359738367, 34359738368, 1 << 42, 1 << 56, 1 << 62, math.MaxInt, math.MaxInt - 1, math.MinInt, math.MinInt + 1, math.MinInt + 300} {
		if got := impl.PutNum(n); len(got) != 0 {
			t.Errorf("PutNum(%d) is %v", n, got)
		}
	}
}

// someNum is of any length.
func (s *steps) someNum() int { return (s.below(1<<16)<<15 + s.below(1<<15)) >> s.below(31) }

func TestPutNumAgainstTheSecondTelling(t *testing.T) {
	nums := edgeNumbers()
	for n := -300; n < 70000; n++ {
		nums = append(nums, n)
	}
	s := steps(161)
	for range 50000 {
		nums = append(nums, s.someNum())
	}
	longs := map[int]int{}
	for _, n := range nums {
		got := impl.PutNum(n)
		if !bytes.Equal(got, putBy(n)) {
			t.Fatalf("PutNum(%d) is %v, not %v", n, got, putBy(n))
		}
		longs[len(got)]++
		if len(got) == 0 {
			continue
		}
		if back, next, ok := impl.GetNum(got, 0); !ok || back != n || next != len(got) {
			t.Fatalf("GetNum(%v, 0) is %d, %d and %v", got, back, next, ok)
		}
		for at := 1; at <= len(got); at++ {
			holdGet(t, got, at)
		}
	}
	for long := range 6 {
		if longs[long] < 100 {
			t.Errorf("only %d numbers have %d bytes", longs[long], long)
		}
	}
}

// At each place of a number there begins what is left of it.
func TestGetNumAtEachPlace(t *testing.T) {
	row := []byte{255, 255, 255, 255, 7}
	for at, want := range []int{2147483647, 16777215, 131071, 1023, 7} {
		if n, next, ok := impl.GetNum(row, at); !ok || n != want || next != 5 {
			t.Errorf("GetNum(%v, %d) is %d, %d and %v", row, at, n, next, ok)
		}
	}
	row = []byte{9, 172, 2, 0, 128, 128, 1, 130}
	for at, want := range []struct{ n, next int }{{9, 1}, {300, 3}, {2, 3}, {0, 4}, {16384, 7}, {128, 7}, {1, 7}} {
		if n, next, ok := impl.GetNum(row, at); !ok || n != want.n || next != want.next {
			t.Errorf("GetNum(%v, %d) is %d, %d and %v", row, at, n, next, ok)
		}
	}
	wantNoNum(t, row, 7)
}

func TestGetNumAtNoPlace(t *testing.T) {
	for _, row := range [][]byte{nil, {}, {0}, {5}, {128, 1}, {0, 0, 0, 0, 0, 0, 0, 0}, {255, 255, 255, 255, 7}, make([]byte, 300)} {
		long := len(row)
		for _, at := range []int{long, long + 1, long + 2, long + 100, -1, -2, -long, -long - 1, -256, 1 << 31, 1 << 32, 1<<32 + 1, -1 << 32, math.MaxInt, math.MaxInt - 1, math.MinInt, math.MinInt + 1, math.MinInt + long} {
			if at != 0 || long == 0 {
				wantNoNum(t, row, at)
			}
		}
		// What stands behind the end is none of it.
		wantNoNum(t, roomBehind(row, 1), long)
		wantNoNum(t, roomBehind(append(slices.Clone(row), 129), 1), long)
	}
}

func TestGetNumOfBytesThatBreakOff(t *testing.T) {
	for _, n := range []int{128, 300, 16383, 16384, 2097151, 2097152, 268435455, 268435456, 1073741824, 2147483647} {
		row := impl.PutNum(n)
		for many := range row {
			wantNoNum(t, row[:many], 0)
			wantNoNum(t, row[:many:many], 0)
			wantNoNum(t, slices.Concat([]byte{7}, row[:many]), 1)
		}
	}
}

// A 0 behind others is one byte too many, however many there are.
func TestGetNumOfWhatIsNotTheShortest(t *testing.T) {
	for _, n := range []int{0, 1, 5, 127, 128, 300, 16383, 16384, 2097151, 2097152, 268435455, 268435456, 1073741824, 2147483647} {
		for more := 1; more <= 12; more++ {
			row := impl.PutNum(n)
			row[len(row)-1] += 128
			row = append(row, bytes.Repeat([]byte{128}, more-1)...)
			row = append(row, 0)
			wantNoNum(t, row, 0)
			wantNoNum(t, append(row, 0, 1, 2), 0)
			wantNoNum(t, slices.Concat([]byte{3, 200}, row), 2)
		}
	}
	for ahead := 1; ahead <= 12; ahead++ {
		for _, b := range []byte{128, 129, 200, 255} {
			wantNoNum(t, append(bytes.Repeat([]byte{b}, ahead), 0), 0)
		}
	}
	wantNum(t, 0, 0)
}

func TestGetNumOfTooGreatNumbers(t *testing.T) {
	for _, row := range [][]byte{
		{128, 128, 128, 128, 8}, {129, 128, 128, 128, 8}, {255, 255, 255, 255, 8}, {128, 128, 128, 128, 9}, {128, 128, 128, 128, 15}, {255, 255, 255, 255, 15},
		{128, 128, 128, 128, 16}, {129, 128, 128, 128, 16}, {128, 128, 128, 128, 32}, {128, 128, 128, 128, 64}, {128, 128, 128, 128, 127}, {255, 255, 255, 255, 127},
		{128, 128, 128, 128, 128, 1}, {255, 255, 255, 255, 135, 1}, {255, 255, 255, 255, 255, 1}, {255, 255, 255, 255, 255, 127},
		{129, 128, 128, 128, 128, 128, 1}, {129, 128, 128, 128, 128, 128, 128, 1}, {129, 128, 128, 128, 128, 128, 128, 128, 1}, {129, 128, 128, 128, 128, 128, 128, 128, 128, 1},
		{255, 255, 255, 255, 255, 255, 255, 255, 255, 1}, {129, 128, 128, 128, 128, 128, 128, 128, 128, 2}, {129, 128, 128, 128, 128, 128, 128, 128, 128, 128, 1}, {129, 128, 128, 128, 128, 128, 128, 128, 128, 128, 128, 128, 128, 128, 1},
	} {
		wantNoNum(t, row, 0)
		wantNoNum(t, append(row, 0), 0)
		wantNoNum(t, append([]byte{1}, row...), 1)
	}
	// Of five bytes the last one is at most 7.
	for last := range 256 {
		for _, first := range []byte{128, 129, 255} {
			row := []byte{first, first, first, first, byte(last)}
			if got := holdGet(t, row, 0); got != (1 <= last && last <= 7) {
				t.Errorf("GetNum(%v, 0) is %v", row, got)
			}
		}
	}
}

func TestGetNumOfRowsWithoutAnEnd(t *testing.T) {
	for _, b := range []byte{128, 129, 192, 255} {
		for many := range 80 {
			row := bytes.Repeat([]byte{b}, many)
			for at := range many {
				wantNoNum(t, row, at)
			}
		}
	}
	great := bytes.Repeat([]byte{255}, 20000000)
	great[len(great)-1] = 1
	quickly(t, "GetNum", func() {
		for at := 0; at < len(great)-5; at += 10 {
			if _, _, ok := impl.GetNum(great, at); ok {
				t.Errorf("there is a number at %d", at)
				return
			}
		}
		if n, next, ok := impl.GetNum(great, len(great)-5); !ok || n != 536870911 || next != len(great) {
			t.Errorf("at the end there are %d, %d and %v", n, next, ok)
		}
	})
}

// All rows of up to two bytes, and longer ones of bytes at the edges, at each place.
func TestGetNumOfAllShortRows(t *testing.T) {
	for a := range 256 {
		for b := range 256 {
			row := []byte{byte(a), byte(b)}
			for at := -1; at <= 3; at++ {
				holdGet(t, row, at)
				holdGet(t, row[:1], at)
			}
		}
	}
	edges := "\x00\x01\x07\x08\x7f\x80\x81\xff"
	rows := []string{""}
	met := map[bool]int{}
	for range 6 {
		var longer []string
		for _, row := range rows {
			for i := range edges {
				longer = append(longer, row+edges[i:i+1])
			}
		}
		rows = longer
		for _, row := range rows {
			met[holdGet(t, []byte(row), 0)]++
			met[holdGet(t, []byte(row), len(row)/2)]++
		}
	}
	if met[true] < 100000 || met[false] < 20000 {
		t.Errorf("there is a number %v times", met)
	}
}

func TestGetNumOfRandomRows(t *testing.T) {
	s := steps(162)
	met := map[bool]int{}
	for range 60000 {
		row := make([]byte, s.below(12))
		for i := range row {
			row[i] = byte(s.below(256)) | byte(s.below(3)/2*128)
		}
		for at := -1; at <= len(row)+1; at++ {
			met[holdGet(t, row, at)]++
		}
	}
	if met[true] < 50000 || met[false] < 50000 {
		t.Errorf("there is a number %v times", met)
	}
}

// Numbers one behind the other are read one behind the other.
func TestNumbersInARow(t *testing.T) {
	s := steps(163)
	for range 3000 {
		var nums []int
		var row []byte
		for range s.below(20) {
			n := s.someNum()
			nums, row = append(nums, n), append(row, impl.PutNum(n)...)
		}
		at := 0
		for i, want := range nums {
			n, next, ok := impl.GetNum(row, at)
			if !ok || n != want {
				t.Fatalf("number %d of %v is %d, %d and %v, not %d", i, row, n, next, ok, want)
			}
			at = next
		}
		if at != len(row) {
			t.Fatalf("%v is read up to %d", row, at)
		}
		wantNoNum(t, row, at)
	}
}

func TestNumsAreNewMemory(t *testing.T) {
	for _, n := range []int{0, 1, 127, 128, 300, 16384, 2097152, 268435456, 2147483647, -1, 2147483648} {
		first, second := impl.PutNum(n), impl.PutNum(n)
		var own pieces
		addList(&own, first)
		addList(&own, second)
		if own.overlap() {
			t.Errorf("PutNum(%d) shares memory with another one", n)
		}
		for i := range first[:cap(first)] {
			first[:cap(first)][i] = 99
		}
		if !bytes.Equal(second, putBy(n)) || !bytes.Equal(impl.PutNum(n), putBy(n)) {
			t.Errorf("PutNum(%d) is written into from elsewhere", n)
		}
	}
	for _, text := range []string{"", "\x00", "\xac\x02", "\x80\x00", "\xff\xff\xff\xff\x07", "\xff\xff\xff\xff\x08", strings.Repeat("\xff", 30)} {
		row := roomBehind([]byte(text), 77)
		for at := -1; at <= len(row)+1; at++ {
			holdGet(t, row, at)
			if string(row[:cap(row)][:len(row)+2]) != text+"MM" {
				t.Errorf("%q is written into", text)
			}
		}
	}
}
