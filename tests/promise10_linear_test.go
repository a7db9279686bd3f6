package tests

import (
	"fmt"
	"math"
	"slices"
	"testing"

	"loop.example/g00737/impl"
)

// mixedRun has moments of each kind: operations that change something, one in
// conflict, a missing Source, a client that gives up, a get and a scan.
func mixedRun() (impl.Base, impl.World) {
	b := startBase()
	fast := wishes(wishCommit("main", set("o", 1)), wishCommit("main", set("o", 2)), wishMerge("main", "dev"), wishCommit("main", set("o", 3)), wishCommit("main", set("a", 9)), wishScan("main"))
	w := newWorld(b, lists(
		wishes(wishCommit("main", set("s", 1)), wishCommit("dev", set("a", 4)), wishCreate("x", "none"), wishGet("dev", "a")), fast,
		wishes(wishCommit("main", set("a", 7)), wishDelete("dev"), wishScan("dev")),
	), "main")
	x := runPicks(w, []int{1, 3, 2, 2, 1, 1, 2, 2, 1, 1, 2, 2, 2, 1, 1, 2, 2, 1, 1, 1, 2, 2, 3, 3, 1, 3, 2, 3, 1})
	return b, x.w
}

func TestPromise10MixedRun(t *testing.T) {
	b, w := mixedRun()
	list := []string{}
	for _, m := range w.Moments {
		list = append(list, fmt.Sprint(m.Client, m.Op.Kind, " ", impl.CodeWord(m.Result.Code)))
	}
	want := names("2 3 ok", "2 3 ok", "2 4 ok", "2 3 ok", "1 0 retries", "1 3 ok", "2 3 ok", "3 3 conflict", "1 0 name", "3 2 ok", "2 6 ok", "3 6 name", "1 5 name")
	if !slices.Equal(list, want) || !impl.AllDone(w) {
		t.Fatal("the run", list)
	}
	wantLinear(t, "the run", b, w, true)
	wantInOrder(t, "the run", w, true)
	wantOps(t, "the run", w, modelOrder(w)...)
	if n := len(modelOrder(w)); n != len(w.Moments)-2 {
		t.Error("operations", n)
	}
	wantRuns(t, "Replay", replay(b, w.Moments), modelReplay(b, w.Moments))
}

// otherResults changes one field at a time, and stays valid.
func otherResults(r impl.Result, commits int) []impl.Result {
	list := []impl.Result{}
	other := func(change func(r *impl.Result)) {
		x := r
		change(&x)
		if !sameResults(x, r) {
			list = append(list, x)
		}
	}
	for code := range 19 {
		other(func(r *impl.Result) { r.Code = code })
	}
	for id := range commits + 1 {
		other(func(r *impl.Result) { r.Commit = id })
	}
	for _, v := range []int{0, 1, -1, impl.MaxValue, -impl.MaxValue} {
		other(func(r *impl.Result) { r.Value = v })
	}
	for _, keys := range [][]string{nil, {"a"}, {"b"}, {""}, append(slices.Clone(r.Keys), "z"), make([]string, 24)} {
		other(func(r *impl.Result) { r.Keys = keys })
	}
	for _, m := range [][]impl.Entry{nil, numbered(1), numbered(12), r.Map[:len(r.Map)/2], append(slices.Clone(r.Map), entry("zz", 1))} {
		other(func(r *impl.Result) { r.Map = m })
	}
	return list
}

// TestPromise10OneOtherResult changes one field of one Result of a run.
func TestPromise10OneOtherResult(t *testing.T) {
	b, w := mixedRun()
	for i, m := range w.Moments {
		for j, r := range otherResults(m.Result, len(w.Base.Store)) {
			x := cloned(w)
			x.Moments[i].Result = r
			// Nothing but the Code tells a moment without an operation.
			want := m.Op.Kind == 0 && (r.Code == impl.ErrName || r.Code == impl.ErrRetries)
			wantLinear(t, fmt.Sprint("moment ", i, " with result ", j), b, x, want)
		}
	}
}

// TestPromise10OneOtherOp gives one moment of a run another operation, or none.
func TestPromise10OneOtherOp(t *testing.T) {
	b, w := mixedRun()
	counts := map[bool]int{}
	for i := range w.Moments {
		for _, name := range names("main", "dev", "x", "none") {
			for j, o := range append(kinds(name), impl.Op{}, opGet(name, "o"), opCommit(name, 0, set("o", 1)), opMerge(name, 2), opMerge(name, 60)) {
				x := cloned(w)
				x.Moments[i].Op = o
				want := modelLinear(b, x)
				wantLinear(t, fmt.Sprint("moment ", i, " with operation ", j, " of ", name), b, x, want)
				counts[want]++
			}
		}
	}
	if counts[true] == 0 || counts[false] < 400 {
		t.Error("runs with another operation", counts)
	}
}

// TestPromise10CodesWithoutOp has each Code in a moment without an operation,
// as the only one and between others, and beside a Result with all fields.
func TestPromise10CodesWithoutOp(t *testing.T) {
	b := startBase()
	for code := range 19 {
		want := code == 10 || code == 12
		for i, r := range []impl.Result{{}, codeOnly(0, "a"), {Commit: 2, Value: -7, Keys: make([]string, 24), Map: numbered(12)}} {
			r.Code = code
			none := did(2, impl.Op{}, r)
			scan := did(1, opScan("main"), impl.Result{Commit: 1, Map: b.Store[0].Map})
			for j, list := range [][]ended{{none}, {none, none}, {scan, none}, {none, scan}, {scan, none, scan}} {
				w := past(b, list...)
				wantLinear(t, fmt.Sprint(code, ", ", i, ", ", j), b, w, want)
				x := replay(b, w.Moments)
				wantRuns(t, "Replay", x, modelReplay(b, w.Moments))
			}
		}
		// With an operation, the Code is the one that it has.
		w := past(b, did(1, opGet("none", "a"), codeOnly(code)), did(1, opGet("main", "z"), codeOnly(impl.ErrNone)))
		wantLinear(t, fmt.Sprint("get ", code), b, w, code == 10)
	}
}

func TestPromise10NoMoments(t *testing.T) {
	for _, c := range validBases() {
		for _, other := range validBases() {
			same := sameBases(c.b, other.b)
			for _, w := range []impl.World{world(c.b, nil), world(c.b, make([]impl.Client, 5), "main"), newWorld(c.b, runWishes())} {
				wantLinear(t, c.name+", "+other.name, other.b, w, same)
				wantInOrder(t, c.name, w, true)
				wantOps(t, c.name, w)
			}
		}
	}
}

// otherBases changes one field of a repository, and stays valid.
func otherBases(b impl.Base) []impl.Base {
	list := []impl.Base{}
	add := func(store []impl.Commit, refs []impl.Ref) {
		if x := base(store, refs...); impl.BaseOK(x) && !sameBases(b, x) {
			list = append(list, x)
		}
	}
	for n := 1; n <= impl.MaxCommits; n++ {
		add(padded(b.Store[:min(n, len(b.Store))], n), b.Refs)
	}
	for i, c := range b.Store {
		for _, next := range []impl.Commit{commit(numbered(3), c.Parents...), commit(nil, c.Parents...), commit(c.Map, 1), commit(c.Map, 2), commit(c.Map, 2, 1)} {
			store := slices.Clone(b.Store)
			store[i] = next
			add(store, b.Refs)
		}
	}
	for i, r := range b.Refs {
		for _, next := range []impl.Ref{live(r.Name, 1, r.Version), live(r.Name, 2, r.Version), live(r.Name, max(r.Head, 1), r.Version+1), live(r.Name, max(r.Head, 1), impl.MaxValue), deleted(r.Name, r.Version), live("other", max(r.Head, 1), r.Version)} {
			refs := slices.Clone(b.Refs)
			refs[i] = next
			add(b.Store, refs)
		}
		add(b.Store, slices.Delete(slices.Clone(b.Refs), i, i+1))
	}
	add(b.Store, append(slices.Clone(b.Refs), live("other", 1, 1)))
	refs := slices.Clone(b.Refs)
	slices.Reverse(refs)
	add(b.Store, refs)
	return list
}

// TestPromise10AnotherBase replays the run on a repository that it did not
// begin with, or expects one that it does not lead to.
func TestPromise10AnotherBase(t *testing.T) {
	b, w := mixedRun()
	for i, x := range otherBases(b) {
		wantLinear(t, fmt.Sprint("begin ", i), x, w, false)
	}
	wantLinear(t, "the end as the beginning", w.Base, w, false)
	count := 0
	for i, x := range otherBases(w.Base) {
		y := world(x, w.Clients, "main")
		y.Moments, y.Steps = w.Moments, w.Steps
		if impl.WorldOK(y) {
			wantLinear(t, fmt.Sprint("end ", i), b, y, false)
			count++
		}
	}
	if count < 50 {
		t.Error("other ends", count)
	}
	y := world(b, w.Clients, "main")
	y.Moments, y.Steps = w.Moments, w.Steps
	for i := range y.Moments {
		y.Moments[i].Result.Commit = 0
	}
	wantLinear(t, "the beginning as the end", b, y, false)
}

// TestPromise10CodesOfLinear has repositories and worlds that are not valid.
func TestPromise10CodesOfLinear(t *testing.T) {
	b, w := mixedRun()
	for _, c := range baseCases() {
		if yes, code := impl.Linear(c.b, w); code != first(c.bad, impl.ErrBad) || yes {
			t.Error("Linear", c.name, yes, code)
		}
		if yes, code := impl.Linear(c.b, impl.World{}); code != impl.ErrBad || yes {
			t.Error("Linear of nothing", c.name, yes, code)
		}
		if c.bad {
			wantNoOrder(t, c.name, impl.World{Base: c.b})
		}
	}
	wantNoOrder(t, "nothing", impl.World{})
	wantLinear(t, "the run", b, at(w, impl.MaxValue), true)
	for _, steps := range []int{-1, impl.MaxValue + 1, math.MaxInt, math.MinInt, w.Moments[12].Step - 1} {
		wantNoOrder(t, fmt.Sprint(steps, " Steps"), at(w, steps))
	}
	for i, o := range badOps() {
		for n := range len(w.Moments) {
			if x := cloned(w); n%5 == i%5 && !sameOps(o, impl.Op{}) {
				x.Moments[n].Op = o
				wantNoOrder(t, fmt.Sprint("operation ", i), x)
			}
		}
	}
}

// TestPromise10EveryWorld breaks each field of a world alone and compares with
// a model.
func TestPromise10EveryWorld(t *testing.T) {
	counts := map[string]int{}
	b, run := mixedRun()
	fresh := newWorld(b, runWishes(), "main", "dev")
	mid := modelPicks(fresh, []int{1, 2, 1, 3, 5, 5, 1, 2, 2, 2, 3}).w
	for _, w := range []impl.World{fresh, crossedWorld(), mid, modelFinish(mid).w, run} {
		for i, c := range append(broken(w), validWorlds()...) {
			what := fmt.Sprint(i, " ", c.name)
			if !modelWorldValid(c.w) {
				wantNoOrder(t, what, c.w)
				counts["not valid"]++
				continue
			}
			linear, inOrder := modelLinear(b, c.w), modelInOrder(c.w)
			wantOps(t, what, c.w, modelOrder(c.w)...)
			wantLinear(t, what, b, c.w, linear)
			wantInOrder(t, what, c.w, inOrder)
			wantRuns(t, what, replay(b, c.w.Moments), modelReplay(b, c.w.Moments))
			for who := range c.w.Clients {
				wantMoments(t, what, c.w, who+1, modelMoments(c.w, who+1)...)
			}
			counts[fmt.Sprint(linear, " ", inOrder)]++
		}
	}
	wantCounts(t, counts, map[string][]string{"": {"not valid", "true true", "false true", "true false", "false false"}})
}
