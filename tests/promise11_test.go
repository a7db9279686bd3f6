package tests

import (
	"fmt"
	"math"
	"slices"
	"strings"
	"testing"

	"loop.example/g00737/impl"
)

func wantChanges(t *testing.T, what string, w impl.World, name string, after, until, want int) {
	t.Helper()
	if n, code := impl.ChangesOf(w, name, after, until); code != 0 || n != want {
		t.Fatal("ChangesOf", what, brief(name), after, until, n, impl.CodeWord(code), "not", want)
	}
}

func wantEarned(t *testing.T, what string, w impl.World, want bool) {
	t.Helper()
	if yes, code := impl.RetriesEarned(w); code != 0 || yes != want {
		t.Fatal("RetriesEarned", what, yes, impl.CodeWord(code), w)
	}
}

// wantNoCounts is for worlds that are not valid.
func wantNoCounts(t *testing.T, what string, w impl.World) {
	t.Helper()
	for _, name := range names("main", "", "a b", strings.Repeat("a", impl.MaxText)) {
		if n, code := impl.ChangesOf(w, name, 0, 9); code != impl.ErrBad || n != 0 {
			t.Fatal("ChangesOf", what, n, code)
		}
	}
	if n, code := impl.ChangesOf(w, strings.Repeat("a", impl.MaxText+1), 0, 9); code != impl.ErrLong || n != 0 {
		t.Fatal("ChangesOf a long name", what, n, code)
	}
	if yes, code := impl.RetriesEarned(w); code != impl.ErrBad || yes {
		t.Fatal("RetriesEarned", what, yes, code)
	}
}

// countedWorld has moments of all kinds at the Steps 2, 4, 6 and so on; main
// changes at 2, 4, 10 and 12, and dev at 6.
func countedWorld() impl.World {
	ok := impl.Result{Commit: 1}
	return past(startBase(),
		did(1, opCreate("main", 1), ok), did(2, opDelete("main"), ok), did(1, opCommit("dev", 0), ok), did(3, opCommit("main", 0), codeOnly(impl.ErrSame)),
		did(1, opCommit("main", 2, set("a", 1)), ok), did(4, opMerge("main", 2), impl.Result{}), did(1, opGet("main", "a"), ok), did(5, opScan("main"), ok),
		did(1, impl.Op{}, impl.Result{}), did(5, opMerge("main", 1), codeOnly(impl.ErrConflict, "a")), gaveUp(2, "none"),
	)
}

func TestPromise11ChangesOf(t *testing.T) {
	w := countedWorld()
	for _, v := range []struct {
		name               string
		after, until, want int
	}{
		{"main", 0, 30, 4}, {"main", 1, 13, 4}, {"main", 2, 13, 3}, {"main", 1, 12, 3}, {"main", 2, 12, 2}, {"main", 4, 10, 0}, {"main", 4, 11, 1}, {"main", 3, 10, 1},
		{"main", 3, 5, 1}, {"main", 3, 4, 0}, {"main", 4, 5, 0}, {"main", 4, 4, 0}, {"main", 5, 3, 0}, {"main", 30, 0, 0}, {"main", 12, 24, 0}, {"main", 12, 2, 0},
		{"main", -1, 3, 1}, {"main", math.MinInt, math.MaxInt, 4}, {"main", math.MaxInt, math.MinInt, 0}, {"main", 9, math.MaxInt, 2}, {"main", math.MinInt, 10, 2},
		{"main", math.MinInt, math.MinInt, 0}, {"main", math.MaxInt, math.MaxInt, 0}, {"main", -1 << 32, 1 << 32, 4},
		{"dev", 0, 30, 1}, {"dev", 6, 30, 0}, {"dev", 0, 6, 0}, {"none", 0, 30, 0}, {"x", 0, 30, 0},
		{"", 0, 30, 0}, {"mai", 0, 30, 0}, {"main ", 0, 30, 0}, {"a b", 0, 30, 0}, {"Main", 0, 30, 0}, {strings.Repeat("a", impl.MaxText), 0, 30, 0},
	} {
		wantChanges(t, "counted", w, v.name, v.after, v.until, v.want)
	}
	if n, code := impl.ChangesOf(w, strings.Repeat("a", impl.MaxText+1), 0, 30); code != impl.ErrLong || n != 0 {
		t.Error("ChangesOf a long name", n, code)
	}
}

// spans has ends at the Steps of moments, beside them, and far away.
func spans(w impl.World) []int {
	list := []int{math.MinInt, -1, 0, w.Steps, w.Steps + 1, impl.MaxValue, math.MaxInt}
	for i, m := range w.Moments {
		if i%5 == len(w.Moments)%5 {
			list = append(list, m.Step-1, m.Step, m.Step+1)
		}
	}
	return list
}

// TestPromise11EveryWorld breaks each field of a world alone and compares with
// a model.
func TestPromise11EveryWorld(t *testing.T) {
	counts := map[string]int{}
	_, run := mixedRun()
	for _, w := range []impl.World{crossedWorld(), countedWorld(), run} {
		for i, c := range append(broken(w), validWorlds()...) {
			what := fmt.Sprint(i, " ", c.name)
			if !modelWorldValid(c.w) {
				wantNoCounts(t, what, c.w)
				counts["not valid"]++
				continue
			}
			for _, name := range names("main", "dev", "none", "") {
				for _, v := range spans(w) {
					wantChanges(t, what, c.w, name, v, w.Steps-1, modelChanges(c.w, name, v, w.Steps-1))
					wantChanges(t, what, c.w, name, 2, v, modelChanges(c.w, name, 2, v))
				}
			}
			wantEarned(t, what, c.w, modelEarned(c.w))
			counts[fmt.Sprint(modelEarned(c.w))]++
		}
	}
	wantCounts(t, counts, map[string][]string{"": {"not valid", "true", "false"}})
}

func TestPromise11InvalidBases(t *testing.T) {
	for _, c := range baseCases() {
		if c.bad {
			wantNoCounts(t, c.name, impl.World{Base: c.b})
		}
	}
	_, run := mixedRun()
	for i, o := range badOps() {
		if x := cloned(run); !sameOps(o, impl.Op{}) {
			x.Moments[4].Op = o
			wantNoCounts(t, fmt.Sprint("operation ", i), x)
		}
	}
}

// times repeats what others did, by four clients in turn.
func times(n int, e ended) []ended {
	list := []ended{}
	for i := range n {
		e.who = 2 + i%4
		list = append(list, e)
	}
	return list
}

// TestPromise11EarnedBy counts the changes before a client gave up, as the end
// of its first wish and of a later one.
func TestPromise11EarnedBy(t *testing.T) {
	scan := did(1, opScan("main"), impl.Result{})
	for n := range 8 {
		earned := n > 3
		changes := times(n, changed(0, "main"))
		for i, list := range [][]ended{
			slices.Concat(changes, []ended{gaveUp(1, "main")}),
			slices.Concat([]ended{scan}, changes, []ended{gaveUp(1, "main")}),
			slices.Concat(changes, []ended{gaveUp(1, "main"), scan}),
			slices.Concat([]ended{scan, scan}, changes, []ended{gaveUp(1, "main"), scan}, changes),
			slices.Concat(times(5, changed(0, "main")), []ended{gaveUp(1, "main")}, changes, []ended{gaveUp(1, "main")}),
			slices.Concat(changes, []ended{gaveUp(1, "main")}, times(5, changed(0, "main")), []ended{gaveUp(1, "main")}),
			slices.Concat(times(5, changed(0, "main")), []ended{scan}, changes, []ended{gaveUp(1, "main")}),
			slices.Concat(changes, []ended{gaveUp(1, "main")}, times(5, changed(0, "main"))),
		} {
			wantEarned(t, fmt.Sprint(n, " changes, ", i), past(startBase(), list...), earned)
		}
		// What happened between two moments of a client does not count twice.
		split := slices.Concat(changes[:n/2], []ended{scan}, changes[n/2:], []ended{gaveUp(1, "main")})
		wantEarned(t, fmt.Sprint(n, " changes, split"), past(startBase(), split...), n-n/2 > 3)
		// Two that were overtaken at the same time share the changes.
		both := slices.Concat(changes, []ended{gaveUp(1, "main"), gaveUp(2, "main")})
		if n > 0 {
			both[0].who = 3
		}
		wantEarned(t, fmt.Sprint(n, " changes, two clients"), past(startBase(), both...), modelEarned(past(startBase(), both...)))
	}
}

// TestPromise11NotEarnedBy has moments of others that are no changes of the
// branch, next to the changes.
func TestPromise11NotEarnedBy(t *testing.T) {
	ok := impl.Result{Commit: 1}
	for what, e := range map[string]ended{
		"a failed get":       did(0, opGet("main", "z"), codeOnly(impl.ErrNone)),
		"another branch":     changed(0, "dev"),
		"a longer name":      changed(0, "main2"),
		"a get":              did(0, opGet("main", "a"), ok),
		"a scan":             did(0, opScan("main"), ok),
		"a conflict":         did(0, opCommit("main", 1, set("a", 1)), codeOnly(impl.ErrConflict, "a")),
		"a merge of nothing": did(0, opMerge("main", 1), codeOnly(impl.ErrSame)),
		"a delete too late":  did(0, opDelete("main"), codeOnly(impl.ErrName)),
		"no operation":       did(0, impl.Op{}, impl.Result{}),
	} {
		for n := 3; n <= 4; n++ {
			list := slices.Concat(times(2, e), times(n, changed(0, "main")), times(4, e), []ended{gaveUp(1, "main")})
			wantEarned(t, fmt.Sprint(what, " and ", n, " changes"), past(startBase(), list...), n == 4)
		}
	}
	for n := 3; n <= 4; n++ {
		list := slices.Repeat([]ended{changed(2, "dev"), changed(3, "dev")}, 2)
		list = slices.Concat(list, []ended{gaveUp(4, "dev")}, times(n, changed(0, "main")), []ended{gaveUp(1, "main")})
		wantEarned(t, fmt.Sprint("one who gave up and ", n, " changes"), past(startBase(), list...), n == 4)
	}
	for kind, o := range kinds("main") {
		list := slices.Concat(times(3, changed(0, "main")), times(1, did(0, o, ok)), []ended{gaveUp(1, "main")})
		wantEarned(t, fmt.Sprint("three commits and kind ", kind+1), past(startBase(), list...), kind < 4)
		list = slices.Concat(times(4, did(0, o, ok)), []ended{gaveUp(1, "main")})
		wantEarned(t, fmt.Sprint("four of kind ", kind+1), past(startBase(), list...), kind < 4)
	}
}

// TestPromise11WhichName has other names in the Op, in the Source and in the
// other wishes than the one that counts.
func TestPromise11WhichName(t *testing.T) {
	merge := ended{who: 1, wish: wishMerge("main", "dev"), result: codeOnly(impl.ErrRetries)}
	odd := ended{who: 1, wish: wishCommit("main"), op: opCommit("dev", 1), result: codeOnly(impl.ErrRetries)}
	scan := ended{who: 1, wish: wishScan("dev"), op: opScan("dev"), result: impl.Result{Commit: 2}}
	for i, e := range []ended{merge, odd, gaveUp(1, "main")} {
		for _, name := range names("main", "dev", "x") {
			changes := times(4, changed(0, name))
			wantEarned(t, fmt.Sprint("first wish ", i, name), past(startBase(), append(changes, e)...), name == "main")
			list := slices.Concat([]ended{scan}, changes, []ended{e, scan})
			wantEarned(t, fmt.Sprint("second wish ", i, name), past(startBase(), list...), name == "main")
		}
	}
}

// TestPromise11NothingToEarn has no moment with the Code, whatever else there
// is.
func TestPromise11NothingToEarn(t *testing.T) {
	for code := range 19 {
		w := past(startBase(), did(1, impl.Op{}, codeOnly(code)), did(2, opScan("main"), codeOnly(code)))
		wantEarned(t, impl.CodeWord(code), w, code != impl.ErrRetries)
	}
	for _, w := range []impl.World{world(startBase(), nil), world(startBase(), make([]impl.Client, 5)), newWorld(startBase(), runWishes(), "main")} {
		wantEarned(t, "no moments", w, true)
		wantChanges(t, "no moments", w, "main", math.MinInt, math.MaxInt, 0)
	}
}

// TestPromise11GivenUpAtOnce begins with a client that has used up its tries:
// the world does not tell by whom it was overtaken.
func TestPromise11GivenUpAtOnce(t *testing.T) {
	c := at2(wishCommit("main", set("c", 3)), 4, 4, 2, impl.MaxRetries, entries(entry("a", 1), entry("b", 1), entry("c", 3)))
	b := base(crossed(), crossedRefs()...)
	x := finishWorld(world(b, []impl.Client{c}))
	if x.code != 0 || len(x.w.Moments) != 1 || !sameResults(x.w.Moments[0].Result, codeOnly(impl.ErrRetries)) {
		t.Fatal("FinishWorld", x)
	}
	wantEarned(t, "given up at once", x.w, false)
	wantLinear(t, "given up at once", b, x.w, true)
}
