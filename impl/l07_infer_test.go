package impl

import (
	"errors"
	"testing"
)

// Each counter counts by itself, and tells no var behind the last one, however often it is asked.
func TestNewVarsOfTwoCounters(t *testing.T) {
	one, other := newVars(3), newVars(0)
	for n := range 3 {
		if v, err := one(); err != nil || v.Op != TyVar || v.N != n {
			t.Errorf("new var %d is %v (%v)", n, v, err)
		}
	}
	for _, next := range []func() (Ty, error){one, other, one, other} {
		v, err := next()
		var why unfound
		if !errors.As(err, &why) || why.code != IfMany || v.Op != 0 {
			t.Errorf("behind the last one comes %v (%v)", v, err)
		}
	}
}

func TestUnfoundTellsItsCode(t *testing.T) {
	for code := IfTidy; code <= IfMany; code++ {
		if got, want := (unfound{code}).Error(), "no types are found: "+Digits(code); got != want {
			t.Errorf("%q is told, not %q", got, want)
		}
	}
}

// What is about a scope is not looked into, and a name that is bound twice is the inner one.
func TestScopes(t *testing.T) {
	var none *scope
	outer := none.with("x", Scheme{Vars: []int{1}}).with("y", Scheme{Vars: []int{2}})
	inner := outer.with("x", Scheme{Vars: []int{3}})
	for _, c := range []struct {
		from, about *scope
		name        string
		want        int
	}{{none, none, "x", 0}, {outer, none, "x", 1}, {outer, none, "y", 2}, {outer, none, "z", 0}, {inner, none, "x", 3}, {inner, none, "y", 2}, {inner, outer, "x", 3}, {inner, outer, "y", 0}, {outer, outer, "x", 0}} {
		got, ok := c.from.bound(c.name, c.about)
		if ok != (c.want > 0) || ok && got.Vars[0] != c.want {
			t.Errorf("%s is bound: %v, to %v, not %d", c.name, ok, got, c.want)
		}
	}
}
