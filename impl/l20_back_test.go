package impl

import (
	"slices"
	"testing"
)

func TestConsByTag(t *testing.T) {
	list := []Data{{}, {Cons: []Con{{Name: "A"}, {Name: "B", Args: []Ty{{Op: TyInt}}}}}, {Vars: 2}, {Cons: []Con{{Name: "A"}}}}
	var names []string
	for tag, c := range consByTag(list) {
		names = append(names, c.Name)
		if i, k := TagCon(list, tag); list[i].Cons[k].Name != c.Name || len(list[i].Cons[k].Args) != len(c.Args) {
			t.Errorf("tag %d is that of %s", tag, c.Name)
		}
	}
	if !slices.Equal(names, []string{"A", "B", "A"}) {
		t.Errorf("cons are %v", names)
	}
	if consByTag(nil) != nil {
		t.Error("of no data there are cons")
	}
}

// A heap that is held is unlocked behind each word that is looked at.
func TestTopOfWords(t *testing.T) {
	h, _ := HeapNew(9)
	h, e, _ := Alloc(h, false, 0, nil)
	h, c, _ := Alloc(h, false, 1, []int{IntWord(3), RefWord(e)})
	h, f, _ := Alloc(h, true, 5, []int{RefWord(c)})
	h, x, _ := Alloc(h, false, 2, nil)
	held, ok := hold(h)
	if !ok {
		t.Fatal("the heap is not right")
	}
	a := wordsAsValues{held, []Con{{Name: "E"}, {Name: "C", Args: make([]Ty, 2)}}}
	for _, s := range []struct {
		w, kind int
		name    string
		kids    []int
	}{
		{RefWord(e), VlCon, "E", nil}, {RefWord(c), VlCon, "C", []int{IntWord(3), RefWord(e)}}, {RefWord(f), VlFun, "", nil}, {RefWord(x), 0, "", nil},
		{RefWord(c + 1), 0, "", nil}, {RefWord(h.Next), 0, "", nil}, {-2, 0, "", nil}, {IntWord(-8), VlInt, "", nil},
	} {
		v, kids, ok := a.top(s.w)
		if ok != (s.kind != 0) || v.Kind != s.kind || v.S != s.name || v.Kids != nil || !slices.Equal(kids, s.kids) {
			t.Errorf("top of %d is %v, %v and %v", s.w, v, kids, ok)
		}
		if !held.lock.TryLock() {
			t.Fatalf("behind %d it is locked", s.w)
		}
		held.lock.Unlock()
	}
	if v, _, _ := a.top(IntWord(-8)); v.N != -8 {
		t.Errorf("the int is %d", v.N)
	}
}
