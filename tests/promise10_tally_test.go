package tests

import (
	"fmt"
	"slices"
	"testing"

	"loop.example/g00737/impl"
)

func wantTally(t *testing.T, what string, w impl.World, want impl.Tally) {
	t.Helper()
	if x, code := impl.TallyOf(w); code != 0 || x != want {
		t.Fatal("TallyOf", what, x, impl.CodeWord(code), "not", want)
	}
}

func wantNoTally(t *testing.T, what string, w impl.World) {
	t.Helper()
	if x, code := impl.TallyOf(w); code != impl.ErrBad || x != (impl.Tally{}) {
		t.Fatal("TallyOf", what, x, code)
	}
}

func TestPromise10TallyOf(t *testing.T) {
	for code := range 19 {
		one, two := impl.Tally{Ended: 1, Other: 1}, impl.Tally{Ended: 2, Other: 2}
		switch code {
		case impl.OK:
			one, two = impl.Tally{Ended: 1, Good: 1}, impl.Tally{Ended: 2, Good: 2}
		case impl.ErrConflict:
			one, two = impl.Tally{Ended: 1, Conflicts: 1}, impl.Tally{Ended: 2, Conflicts: 2}
		case impl.ErrSame:
			one, two = impl.Tally{Ended: 1, Same: 1}, impl.Tally{Ended: 2, Same: 2}
		case impl.ErrRetries:
			one, two = impl.Tally{Ended: 1, GaveUp: 1}, impl.Tally{Ended: 2, GaveUp: 2}
		}
		wantTally(t, fmt.Sprint("one of ", code), withCodes(code), one)
		wantTally(t, fmt.Sprint("two of ", code), withCodes(code, code), two)
	}
	every := []int{}
	for code := range 19 {
		every = append(every, code)
	}
	wantTally(t, "every Code", withCodes(every...), impl.Tally{Ended: 19, Good: 1, Conflicts: 1, Same: 1, GaveUp: 1, Other: 15})
	mixed := []int{0, 11, 11, 18, 18, 18, 12, 12, 12, 12, 5, 10, 7, 0, 0, 0, 0, 12, 13, 14}
	wantTally(t, "mixed Codes", withCodes(mixed...), impl.Tally{Ended: 20, Good: 5, Conflicts: 2, Same: 3, GaveUp: 5, Other: 5})
	wantTally(t, "as many as there are", withCodes(slices.Repeat([]int{0, 10, 11}, 10)...), impl.Tally{Ended: 30, Good: 10, Conflicts: 10, Other: 10})
	wantTally(t, "no moments", newWorld(startBase(), runWishes(), "main"), impl.Tally{})
	wantTally(t, "no clients", world(startBase(), nil), impl.Tally{})
	_, run := mixedRun()
	wantTally(t, "a run", run, impl.Tally{Ended: 13, Good: 8, Conflicts: 1, GaveUp: 1, Other: 3})
}

// TestPromise10TallyOfEveryWorld breaks each field of a world alone and
// compares with a model.
func TestPromise10TallyOfEveryWorld(t *testing.T) {
	counts := map[string]int{}
	_, run := mixedRun()
	for _, w := range []impl.World{crossedWorld(), run} {
		for i, c := range append(broken(w), validWorlds()...) {
			what, valid := fmt.Sprint(i, " ", c.name), modelWorldValid(c.w)
			if valid {
				wantTally(t, what, c.w, modelTally(c.w))
			} else {
				wantNoTally(t, what, c.w)
			}
			counts[fmt.Sprint(valid)]++
		}
	}
	wantCounts(t, counts, map[string][]string{"": {"true", "false"}})
	for _, c := range baseCases() {
		if c.bad {
			wantNoTally(t, c.name, impl.World{Base: c.b})
		}
	}
}

// TestPromise10TallyOfRuns counts the ends of wishes after every step.
func TestPromise10TallyOfRuns(t *testing.T) {
	for i, list := range crossing() {
		wanted := 0
		for _, wishes := range list {
			wanted += len(wishes)
		}
		w := newWorld(startBase(), list)
		for step := 0; ; step++ {
			what := fmt.Sprint("crossing ", i, " after ", step)
			x, code := impl.TallyOf(w)
			if code != 0 || x != modelTally(w) || x.Ended != x.Good+x.Conflicts+x.Same+x.GaveUp+x.Other {
				t.Fatal("TallyOf", what, x, code)
			}
			if activePick(w) == 0 {
				if x.Ended != wanted {
					t.Fatal("ended", what, x, wanted)
				}
				break
			}
			w = modelTurn(w, 1+step%len(list)).w
		}
	}
}

func wantAnyPicks(t *testing.T, what string, b impl.Base, wanted [][]impl.Wish, picks []int, want int) {
	t.Helper()
	if yes, code := impl.AnyPicks(b, wanted, picks); code != want || yes != (want == 0) {
		t.Fatal("AnyPicks", what, yes, impl.CodeWord(code), "not", impl.CodeWord(want))
	}
}

func TestPromise10CodesOfAnyPicks(t *testing.T) {
	b, bad := startBase(), base(line(1), live("main", 2, 1))
	good := wishes(wishScan("main"))
	invalid := wishes(wishScan("main"), impl.Wish{})
	for i, v := range []struct {
		b      impl.Base
		wishes [][]impl.Wish
		picks  int
		code   int
	}{
		{b, nil, 0, impl.OK},
		{b, nil, impl.MaxPicks, impl.OK},
		{b, nil, impl.MaxPicks + 1, impl.ErrMany},
		{b, nil, impl.MaxList, impl.ErrMany},
		{b, nil, impl.MaxList + 1, impl.ErrLong},
		{b, slices.Repeat(lists(good), impl.MaxClients), impl.MaxPicks, impl.OK},
		{b, slices.Repeat(lists(good), impl.MaxClients), impl.MaxPicks + 1, impl.ErrMany},
		{b, slices.Repeat(lists(good), impl.MaxClients+1), 0, impl.ErrMany},
		{b, make([][]impl.Wish, impl.MaxClients+1), impl.MaxPicks + 1, impl.ErrMany},
		{b, make([][]impl.Wish, impl.MaxList), 0, impl.ErrMany},
		{b, make([][]impl.Wish, impl.MaxList+1), 0, impl.ErrLong},
		{b, slices.Repeat(lists(invalid), impl.MaxClients+1), 0, impl.ErrMany},
		{b, lists(good, invalid), 0, impl.ErrBad},
		{b, lists(good, invalid), impl.MaxPicks + 1, impl.ErrBad},
		{b, lists(invalid), impl.MaxList, impl.ErrBad},
		{b, lists(invalid), impl.MaxList + 1, impl.ErrLong},
		{b, lists(slices.Repeat(good, impl.MaxWishes)), 9, impl.OK},
		{b, lists(slices.Repeat(good, impl.MaxWishes+1)), 9, impl.ErrBad},
		{b, lists(slices.Repeat(good, impl.MaxList+1)), 9, impl.ErrBad},
		{bad, nil, 0, impl.ErrBad},
		{bad, slices.Repeat(lists(good), impl.MaxClients+1), impl.MaxPicks + 1, impl.ErrBad},
		{bad, make([][]impl.Wish, impl.MaxList+1), 0, impl.ErrLong},
		{impl.Base{}, lists(good), impl.MaxPicks, impl.ErrBad},
		{impl.Base{}, nil, impl.MaxList + 1, impl.ErrLong},
	} {
		wantAnyPicks(t, fmt.Sprint(i), v.b, v.wishes, slices.Repeat([]int{1, 0, 2}, v.picks/3+1)[:v.picks], v.code)
	}
	for _, c := range baseCases() {
		wantAnyPicks(t, c.name, c.b, lists(good), []int{1}, first(c.bad, impl.ErrBad))
	}
	for i, x := range badWishes() {
		wantAnyPicks(t, fmt.Sprint("wish ", i), b, lists(good, append(wishes(wishScan("a")), x)), []int{1}, impl.ErrBad)
	}
}

// TestPromise10AnyPicks has all orders in which clients can begin, and picks
// that no client performs.
func TestPromise10AnyPicks(t *testing.T) {
	for i, list := range append(crossing(), runWishes()) {
		everyPicks(5, []int{1, 2, len(list)}, func(picks []int) {
			wantAnyPicks(t, fmt.Sprint("list ", i, picks), startBase(), list, picks, 0)
		})
		wantAnyPicks(t, "picks of nobody", startBase(), list, noPicks(), 0)
		wantAnyPicks(t, "picks of one who has finished", startBase(), list, slices.Repeat([]int{1}, impl.MaxPicks), 0)
	}
	for _, c := range validBases() {
		for i, x := range fewWishes() {
			wantAnyPicks(t, c.name, c.b, lists(wishes(x, wishScan("main")), wishKinds("main", "dev"), wishKinds("dev", "right")), []int{1, 2, 3, 1, 3, 2, i % 5, 1, 2, 3}, 0)
		}
	}
}
