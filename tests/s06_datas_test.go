package tests

import (
	"slices"
	"strconv"

	"loop.example/g00323/impl"
)

// A second telling of chapter 6: all cons in one list, and each reason looked for by itself.

const consMost = 60

// A seat is where a con stands, and its name.
type seat struct {
	data, con int
	name      string
}

func seatsOf(list []impl.Data) []seat {
	var seats []seat
	for i := range list {
		for j := range list[i].Cons {
			seats = append(seats, seat{i, j, list[i].Cons[j].Name})
		}
	}
	return seats
}

func tagBy(list []impl.Data, name string) int {
	return slices.IndexFunc(seatsOf(list), func(s seat) bool { return s.name == name })
}

func namesDiffer(names []string) bool {
	slices.Sort(names)
	return len(slices.Compact(slices.Clone(names))) == len(names)
}

func twiceBy(list []impl.Data) bool {
	var datas, cons []string
	for _, d := range list {
		datas = append(datas, d.Name)
	}
	for _, s := range seatsOf(list) {
		cons = append(cons, s.name)
	}
	return !namesDiffer(datas) || !namesDiffer(cons)
}

// datasAsked are all TyDatas within the types of the cons.
func datasAsked(list []impl.Data) []impl.Ty {
	p := impl.Prog{Datas: list}
	var asked []impl.Ty
	for _, ty := range spotsOf(&p).types {
		if ty.Op == impl.TyData {
			asked = append(asked, *ty)
		}
	}
	return asked
}

func dataBy(list []impl.Data, name string) int {
	return slices.IndexFunc(list, func(d impl.Data) bool { return d.Name == name })
}

func checkBy(list []impl.Data) int {
	asked := datasAsked(list)
	switch {
	case twiceBy(list):
		return impl.DtTwice
	case slices.ContainsFunc(asked, func(ty impl.Ty) bool { return dataBy(list, ty.S) < 0 }):
		return impl.DtName
	case len(seatsOf(list)) > consMost || slices.ContainsFunc(asked, func(ty impl.Ty) bool { return list[dataBy(list, ty.S)].Vars != len(ty.Kids) }):
		return impl.DtMany
	}
	return impl.DtDone
}

// datasOf reads datas from their text.
func datasOf(text string) []impl.Data {
	p, bad := impl.Parse(text + " 0")
	if bad != -1 {
		panic("no datas: " + text)
	}
	return p.Datas
}

func toldDatas(list []impl.Data) string {
	text := toldProg(impl.Prog{Datas: list})
	return text[:len(text)-len(told(impl.Node{}))]
}

// consNamed are that many cons with names of their own.
func consNamed(many int, ahead string) []impl.Con {
	var cons []impl.Con
	for i := range many {
		cons = append(cons, oneCon(ahead+strconv.Itoa(i)))
	}
	return cons
}

// rightDatas are some of which CheckDatas is DtDone.
func (s *steps) rightDatas() []impl.Data {
	list := make([]impl.Data, s.below(5))
	tag := 0
	for i := range list {
		list[i] = oneData("D"+strconv.Itoa(i), s.below(4))
	}
	for i := range list {
		for left := s.below(4); left > 0; left-- {
			c := oneCon("C" + strconv.Itoa(tag))
			for args := s.below(4); args > 0; args-- {
				c.Args = append(c.Args, s.rightTy(list, list[i].Vars, 1+s.below(4)))
			}
			list[i].Cons = append(list[i].Cons, c)
			tag++
		}
	}
	return list
}

func (s *steps) rightTy(list []impl.Data, vars, deep int) impl.Ty {
	kind := s.below(4)
	switch {
	case kind == 0 && vars > 0:
		return varTy(s.below(vars))
	case kind <= 1 || deep == 1:
		return intTy()
	case kind == 2:
		return funTy(s.rightTy(list, vars, deep-1), s.rightTy(list, vars, deep-1))
	}
	d := list[s.below(len(list))]
	t := dataTy(d.Name)
	for range d.Vars {
		t.Kids = append(t.Kids, s.rightTy(list, vars, deep-1))
	}
	return t
}

// turnDatas makes the datas others at one spot; they may stay right.
func (s *steps) turnDatas(list []impl.Data) []impl.Data {
	p := impl.Prog{Datas: list}
	all := spotsOf(&p)
	switch kind := s.below(10); {
	case kind == 0 && len(list) > 0:
		all.datas[s.below(len(list))].Name = s.pick("D0", "D1", "D2", "C0", "", "Int", "E")
	case kind == 1 && len(list) > 0:
		all.datas[s.below(len(list))].Vars = []int{-1, 0, 1, 2, 3, 27}[s.below(6)]
	case kind == 2 && len(all.cons) > 0:
		all.cons[s.below(len(all.cons))].Name = s.pick("C0", "C1", "C2", "D0", "", "Int", "E")
	case kind <= 5 && len(all.types) > 0:
		s.turnDataTy(all.types[s.below(len(all.types))])
	case kind == 6 && len(list) > 0:
		d := all.datas[s.below(len(list))]
		d.Cons = slices.Concat(d.Cons, consNamed(consMost-len(all.cons)+s.below(2), "M"))
	case kind == 7 && len(list) > 0:
		list = slices.Delete(list, len(list)-1, len(list))
	case kind == 8 && len(list) > 1:
		list[0], list[len(list)-1] = list[len(list)-1], list[0]
	}
	return list
}

func (s *steps) turnDataTy(t *impl.Ty) {
	switch s.below(5) {
	case 0:
		t.Op = s.below(7) - 1
	case 1:
		t.S = s.pick("D0", "D1", "D2", "D3", "C0", "", "Int")
	case 2:
		t.Kids = t.Kids[:len(t.Kids)/2]
	case 3:
		t.Kids = append(t.Kids, intTy())
	default:
		*t = dataTy(s.pick("D0", "D1", "D2", "D3", "E"))
	}
}
