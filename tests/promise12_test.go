package tests

import (
	"fmt"
	"slices"
	"strings"
	"testing"

	"loop.example/g00737/impl"
)

func wantHeads(t *testing.T, what string, w impl.World, name string, want ...int) {
	t.Helper()
	if list, code := impl.HeadsOf(w, name); code != 0 || !slices.Equal(list, want) {
		t.Fatal("HeadsOf", what, brief(name), list, impl.CodeWord(code), "not", want)
	}
}

// wantNoHeads is for worlds that are not valid.
func wantNoHeads(t *testing.T, what string, w impl.World) {
	t.Helper()
	for _, name := range names("main", "", "a b", strings.Repeat("a", impl.MaxText)) {
		if list, code := impl.HeadsOf(w, name); code != impl.ErrBad || len(list) > 0 {
			t.Fatal("HeadsOf", what, list, code)
		}
	}
	if list, code := impl.HeadsOf(w, strings.Repeat("a", impl.MaxText+1)); code != impl.ErrLong || len(list) > 0 {
		t.Fatal("HeadsOf a long name", what, list, code)
	}
}

// headsWorld has moments of every Kind, with two names, that changed something,
// that did not, and that have no operation.
func headsWorld() impl.World {
	at := func(id int) impl.Result { return impl.Result{Commit: id} }
	return past(base(crossed(), crossedRefs()...),
		did(1, opCreate("main", 3), at(3)), did(2, opCommit("main", 0), at(5)), did(3, opCommit("dev", 2), at(6)), did(1, opMerge("main", 7), at(7)),
		did(4, opDelete("main"), at(7)), did(1, opGet("main", "a"), at(1)), did(1, opScan("main"), at(2)), did(5, opCreate("main", 1), at(1)),
		did(2, opMerge("dev", 4), codeOnly(impl.ErrConflict, "a")), did(2, opMerge("main", 4), codeOnly(impl.ErrSame)), did(2, opDelete("dev"), at(6)),
		did(3, impl.Op{}, at(4)), gaveUp(3, "main"), did(3, opCommit("main", 1), impl.Result{Code: impl.ErrFull, Commit: 4}), did(3, opCreate("dev", 1), codeOnly(impl.ErrExists)),
		did(4, opDelete("none"), codeOnly(impl.ErrName)), did(4, opCommit("main", 2), impl.Result{}), did(5, opDelete("main"), impl.Result{}),
	)
}

func TestPromise12HeadsOf(t *testing.T) {
	w := headsWorld()
	for name, want := range map[string][]int{
		"main": {3, 5, 7, 0, 1, 0, 0}, "dev": {6, 0}, "none": {}, "": {}, "mai": {}, "main2": {}, "Main": {}, " main": {}, "a b": {}, "left": {},
		strings.Repeat("a", impl.MaxText): {},
	} {
		wantHeads(t, "all kinds", w, name, want...)
		wantHeads(t, "later", at(w, impl.MaxValue), name, want...)
	}
	if list, code := impl.HeadsOf(w, strings.Repeat("a", impl.MaxText+1)); code != impl.ErrLong || len(list) > 0 {
		t.Error("HeadsOf a long name", list, code)
	}
	wantHeads(t, "no moments", newWorld(startBase(), runWishes(), "main"), "main")
	wantHeads(t, "no clients", world(startBase(), nil, "main"), "main")
	late := past(startBase(), changed(1, "main"))
	late.Moments[0].Step, late.Steps = impl.MaxValue, impl.MaxValue
	wantHeads(t, "at the last step", late, "main", 1)
	early := past(startBase(), changed(1, "main"))
	early.Moments[0].Step = 1
	wantHeads(t, "at the first step", early, "main", 1)
}

// TestPromise12HeadsOfOne has one moment of each Kind with each Code.
func TestPromise12HeadsOfOne(t *testing.T) {
	for code := range 19 {
		for i, o := range append(kinds("main"), impl.Op{}) {
			for id := range 3 {
				w, want := past(startBase(), did(1, o, impl.Result{Code: code, Commit: id})), []int{}
				switch {
				case code == 0 && o.Kind == impl.OpDelete:
					want = []int{0}
				case code == 0 && i < 4:
					want = []int{id}
				}
				wantHeads(t, fmt.Sprint("kind ", o.Kind, " code ", code), w, "main", want...)
				wantHeads(t, "another name", w, "dev")
				wantHeads(t, "no name", w, "")
			}
		}
	}
}

// TestPromise12EveryWorld breaks each field of a world alone and compares with
// a model.
func TestPromise12EveryWorld(t *testing.T) {
	counts := map[string]int{}
	_, run := mixedRun()
	for _, w := range []impl.World{headsWorld(), run} {
		for i, c := range append(broken(w), validWorlds()...) {
			what, valid := fmt.Sprint(i, " ", c.name), modelWorldValid(c.w)
			counts[fmt.Sprint(valid)]++
			if !valid {
				wantNoHeads(t, what, c.w)
				continue
			}
			for _, name := range names("main", "dev", "x", "none", "") {
				wantHeads(t, what, c.w, name, modelHeads(c.w, name)...)
			}
		}
	}
	wantCounts(t, counts, map[string][]string{"": {"true", "false"}})
	for _, c := range baseCases() {
		if c.bad {
			wantNoHeads(t, c.name, impl.World{Base: c.b})
		}
	}
	for i, x := range badWishes() {
		wantNoHeads(t, fmt.Sprint("wish ", i), world(startBase(), []impl.Client{at0(x)}))
	}
}
