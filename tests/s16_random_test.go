package tests

import (
	"bytes"
	"slices"
	"testing"

	"loop.example/g00323/impl"
)

// turnRow changes a row at one spot; it may stay one that is read.
func (s *steps) turnRow(row []byte) []byte {
	if len(row) == 0 {
		return row
	}
	at := s.below(len(row))
	switch s.below(7) {
	case 0:
		row[at] = byte(s.below(256))
	case 1:
		row[at] += byte(s.below(3) - 1)
	case 2:
		row[at] ^= 128
	case 3:
		row = slices.Insert(row, at, byte(s.below(256)))
	case 4:
		row = slices.Delete(row, at, at+1)
	case 5:
		row[at] = row[s.below(len(row))]
	default:
		row = row[:at]
	}
	return row
}

func TestRandomFunsAsBytes(t *testing.T) {
	s := steps(164)
	met, rows := map[bool]int{}, map[bool]int{}
	for i := range 20000 {
		list := s.rightFuns(1 + i%12)
		if !holdFunsWritten(t, list) {
			t.Fatalf("%.500s is not written", toldFuns(list))
		}
		row := bytesBy(list)
		for range 1 + s.below(2) {
			row = s.turnRow(row)
		}
		rows[holdFunsRead(t, row)]++
		for left := s.below(3); left > 0; left-- {
			s.turnFuns(list)
		}
		met[holdFunsWritten(t, list)]++
	}
	if met[true] < 7000 || met[false] < 5000 || rows[true] < 800 || rows[false] < 10000 {
		t.Errorf("lists are written %v times, rows are read %v times", met, rows)
	}
}

// Rows of numbers that are small make functions more often than rows of any bytes do.
func TestFunsOfRandomRows(t *testing.T) {
	s := steps(165)
	met := map[bool]int{}
	for range 100000 {
		row := make([]byte, s.below(40))
		for i := range row {
			row[i] = byte(s.below(256))
		}
		holdFunsRead(t, row)
		nums := []int{1 + s.below(2)}
		for range nums[0] {
			nums = append(nums, 0, 1+s.below(2))
			for left := nums[len(nums)-1]; left > 1; left-- {
				nums = append(nums, s.below(23), halfWords+s.below(3)-1, s.below(5)/4)
			}
			nums = append(nums, 7+s.below(3)*7, halfWords+s.below(5)/4, s.below(5)/4)
		}
		met[holdFunsRead(t, rowOf(nums...))]++
	}
	if met[true] < 2000 || met[false] < 50000 {
		t.Errorf("rows are read %v times", met)
	}
}

// What is made of whole programs is read as it was, and does what it did.
func TestFunsOfPrograms(t *testing.T) {
	s := steps(166)
	written := 0
	hold := func(p impl.Prog) {
		blocks, ok := impl.Close(p)
		if !ok {
			return
		}
		funs, ok := impl.Gen(blocks)
		if !ok {
			return
		}
		if !holdFunsWritten(t, funs) {
			t.Fatalf("what is made of %.1000s is not written", impl.Write(p))
		}
		read, _ := impl.FunsOf(impl.FunsBytes(funs))
		if impl.Verify(read) != impl.Verify(funs) || impl.Places(read) != impl.Places(funs) {
			t.Fatalf("what is made of %.1000s is another one when it is read", impl.Write(p))
		}
		if got, want := toldResult(runFuns(p.Datas, read, 500)), toldResult(runFuns(p.Datas, funs, 500)); got != want {
			t.Fatalf("what is made of %.1000s does %.300s, not %.300s", impl.Write(p), got, want)
		}
		written++
	}
	for i := range 1000 {
		hold(s.madeProg(1 + i%7))
		hold(s.wholeProg(1 + i%7))
	}
	few := namer{&s, []string{"a", "b", "c"}}
	for i := range 500 {
		hold(impl.Prog{Datas: datasOf(closeDatas), Main: few.made(nil, 2+i%6)})
	}
	for _, c := range typedPrograms() {
		hold(evalProg(c[1]))
	}
	if written < 2000 {
		t.Errorf("only %d are written", written)
	}
}

func TestBytesOfAProgram(t *testing.T) {
	blocks, _ := impl.Close(closeProg("(fun x -> x) (0 - 3)"))
	funs, _ := impl.Gen(blocks)
	if got := funsText(funs); got != "0: clos 1 0, num 0, num 3, sub, call, ret; 0: local 0, ret" {
		t.Errorf("the places are %s", got)
	}
	want := "\x02" +
		"\x00\x06" + "\x05\x81\x80\x80\x80\x04\x00" + "\x01" + nought + "\x00" + "\x01\x83\x80\x80\x80\x04\x00" + "\x0d" + nought + "\x00" + "\x06" + nought + "\x00" + "\x07" + nought + "\x00" +
		"\x00\x02" + "\x02" + nought + "\x00" + "\x07" + nought + "\x00"
	wantRead(t, []byte(want), funs)
}

// holdBytesMemory holds that neither functions nor bytes are written into, and that what is answered is new, each list of it by itself.
func holdBytesMemory(t *testing.T, list []impl.Fun) bool {
	t.Helper()
	kept := toldFunsWithRoom(list)
	row := impl.FunsBytes(list)
	want := slices.Clone(row)
	given := roomBehind(row, 77)
	whole := slices.Clone(given[:cap(given)])
	read, ok := impl.FunsOf(given)
	other, _ := impl.FunsOf(given)
	var own pieces
	addFunsOnce(&own, list)
	addList(&own, row)
	addList(&own, given)
	addFuns(&own, read)
	addFuns(&own, other)
	if own.overlap() {
		t.Fatalf("what is answered of %.500s shares memory", toldFuns(list))
	}
	spoilFuns(read)
	for i := range row[:cap(row)] {
		row[:cap(row)][i] = 99
	}
	if toldFunsWithRoom(list) != kept || !bytes.Equal(given[:cap(given)], whole) {
		t.Fatalf("%.500s is written into", kept)
	}
	if ok && !sameFuns(other, list) || !bytes.Equal(impl.FunsBytes(list), want) {
		t.Fatalf("asked again, %.500s is told otherwise", kept)
	}
	if again, still := impl.FunsOf(given); still != ok || !sameFuns(again, other) {
		t.Fatalf("asked again, %.500v is told otherwise", given)
	}
	return ok
}

func TestFunsAndBytesAreNewMemory(t *testing.T) {
	s := steps(167)
	met := map[bool]int{}
	for i := range 6000 {
		list := s.rightFuns(1 + i%9)
		for left := s.below(3); left > 0; left-- {
			s.turnFuns(list)
		}
		met[holdBytesMemory(t, funsWithRoom(list))]++
	}
	if met[true] < 2000 || met[false] < 1500 {
		t.Errorf("functions are written %v times", met)
	}
	// Functions that share their places are read as such that do not.
	places := opsOf("num 1, ret, jump 1")
	for many, want := range []bool{false, false, true, true} {
		if got := holdBytesMemory(t, []impl.Fun{{List: places[:many]}, {Free: 3, List: places[:many]}, {List: places[:many]}}); got != want {
			t.Errorf("of %d places it is %v", many, got)
		}
	}
	// What is not read is not written into either.
	for range 4000 {
		row := roomBehind(s.turnRow(bytesBy(s.rightFuns(4))), 77)
		kept := slices.Clone(row[:cap(row)])
		_, first := impl.FunsOf(row)
		if _, again := impl.FunsOf(row); first != again || !bytes.Equal(row[:cap(row)], kept) {
			t.Fatalf("%v is written into", kept)
		}
	}
}
