package impl

import (
	"runtime"
	"slices"
	"testing"
	"time"
)

// TestStoreysWorkInTurn has storeys that note that they worked, and on what.
func TestStoreysWorkInTurn(t *testing.T) {
	for _, many := range []int{0, 1, 2, 5, 100} {
		for refusing := -1; refusing < many; refusing++ {
			var noted []int
			var storeys []storey
			for i := range many {
				storeys = append(storeys, func(b *building) int {
					if b.src != "text" || b.found != i || b.code != BdDone {
						t.Errorf("of %d, storey %d works on %q, %d and %d", many, i, b.src, b.found, b.code)
					}
					noted = append(noted, i)
					b.found++
					if i == refusing {
						return 100 + i
					}
					return BdDone
				})
			}
			b := raised("text", storeys...)
			worked, code := many, BdDone
			if refusing >= 0 {
				worked, code = refusing+1, 100+refusing
			}
			if b.src != "text" || b.found != worked || b.code != code || len(noted) != worked || !slices.IsSorted(noted) {
				t.Errorf("of %d, where %d refuses, %v have worked, and it is of code %d", many, refusing, noted, b.code)
			}
		}
	}
}

// What a storey makes is there for those above it, and for the one who asked, also where it is refused.
func TestWhatStoreysHandOn(t *testing.T) {
	b := raised("1 2", (*building).parse, (*building).infer, (*building).cover, (*building).close, (*building).gen)
	if b.code != BdType || b.found != IfType || b.prog.Main.Op != NdApp || b.blocks != nil || b.funs != nil {
		t.Errorf("1 2 is of code %d, found %d", b.code, b.found)
	}
	b = raised("fun x -> x", (*building).parse, (*building).infer, (*building).cover, (*building).close)
	if b.code != BdDone || b.typed.Ty.Op != TyFun || len(b.blocks) != 2 || b.funs != nil {
		t.Errorf("a function is of code %d, with %d blocks", b.code, len(b.blocks))
	}
	if b = raised("", (*building).parse); b.code != BdParse || b.prog.Main.Op != 0 {
		t.Errorf("nothing is of code %d", b.code)
	}
	// What is not verified is not kept, nor what is none.
	for _, list := range [][]Block{nil, {{Body: Ir{Op: IrCon, Kids: slices.Repeat([]Ir{{Op: IrNum}}, MaxKids+1)}}}, {{Free: 1, Body: Ir{Op: IrNum}}}} {
		b = building{blocks: list}
		if code := b.gen(); code != BdGen || b.funs != nil {
			t.Errorf("%v is of code %d, with %d functions", list, code, len(b.funs))
		}
	}
	tower := Ir{Op: IrNum}
	for range MaxDepth {
		tower = Ir{Op: IrAdd, Kids: []Ir{{Op: IrNum}, tower}}
	}
	b = building{blocks: []Block{{Body: tower}}}
	if _, ok := Gen(b.blocks); !ok || b.gen() != BdGen || b.funs != nil {
		t.Error("what is made too high is kept")
	}
}

// All storeys have ended when the building is there, also those above the one that refused it.
func TestStoreysEnd(t *testing.T) {
	begun := runtime.NumGoroutine()
	for refusing := range 60 {
		var storeys []storey
		for i := range 50 {
			storeys = append(storeys, func(*building) int {
				if i == refusing {
					return BdGen
				}
				return BdDone
			})
		}
		raised("", storeys...)
	}
	for range 1000 {
		if runtime.NumGoroutine() <= begun {
			return
		}
		time.Sleep(time.Millisecond)
	}
	t.Errorf("%d are there yet", runtime.NumGoroutine()-begun)
}
