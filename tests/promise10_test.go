package tests

import (
	"fmt"
	"math"
	"slices"
	"testing"

	"loop.example/g00737/impl"
)

func wantOps(t *testing.T, what string, w impl.World, want ...impl.Op) {
	t.Helper()
	if list, code := impl.OrderOf(w); code != 0 || !slices.EqualFunc(list, want, sameOps) {
		t.Fatal("OrderOf", what, list, impl.CodeWord(code), "not", want)
	}
}

func wantLinear(t *testing.T, what string, b impl.Base, w impl.World, want bool) {
	t.Helper()
	if yes, code := impl.Linear(b, w); code != 0 || yes != want {
		t.Fatal("Linear", what, yes, impl.CodeWord(code), w)
	}
}

func wantMoments(t *testing.T, what string, w impl.World, who int, want ...impl.Moment) {
	t.Helper()
	if list, code := impl.MomentsOf(w, who); code != 0 || !slices.EqualFunc(list, want, sameMoments) {
		t.Fatal("MomentsOf", what, who, list, impl.CodeWord(code), "not", want)
	}
}

func wantInOrder(t *testing.T, what string, w impl.World, want bool) {
	t.Helper()
	if yes, code := impl.InOrder(w); code != 0 || yes != want {
		t.Fatal("InOrder", what, yes, impl.CodeWord(code), w)
	}
}

// wantNoOrder is for worlds that are not valid.
func wantNoOrder(t *testing.T, what string, w impl.World) {
	t.Helper()
	if list, code := impl.OrderOf(w); code != impl.ErrBad || len(list) > 0 {
		t.Fatal("OrderOf", what, list, code)
	}
	if yes, code := impl.Linear(startBase(), w); code != impl.ErrBad || yes {
		t.Fatal("Linear", what, yes, code)
	}
	for _, who := range []int{0, 1, 6} {
		if list, code := impl.MomentsOf(w, who); code != impl.ErrBad || len(list) > 0 {
			t.Fatal("MomentsOf", what, list, code)
		}
	}
	if yes, code := impl.InOrder(w); code != impl.ErrBad || yes {
		t.Fatal("InOrder", what, yes, code)
	}
}

func TestPromise10OrderOf(t *testing.T) {
	wantOps(t, "no moments", newWorld(startBase(), runWishes()))
	wantOps(t, "no clients", world(startBase(), nil))
	wantOps(t, "crossed", crossedWorld(), opScan("main"), opGet("main", "a"), opMerge("main", 60), opCommit("left", 0, set("z", 1)))
	none := finishWorld(newWorld(startBase(), lists(wishes(wishCreate("x", "none"), wishMerge("main", "none"))))).w
	if len(none.Moments) != 2 {
		t.Fatal("moments", none.Moments)
	}
	wantOps(t, "no operations", none)
	// A wish that ends at its look has an operation, one without a Source has none.
	w := newWorld(startBase(), lists(wishes(wishCommit("none", set("a", 1)), wishMerge("none", "main"), wishMerge("none", "none"), wishDelete("none"), wishCommit("main"))))
	wantOps(t, "operations that fail", finishWorld(w).w, opCommit("none", 0, set("a", 1)), opMerge("none", 1), opDelete("none"), opCommit("main", 1))
}

// anyMoments has operations of every kind, that change something or fail, and
// moments without one, whose Results nothing restricts.
func anyMoments() ([]impl.Moment, []impl.Result) {
	kept := []impl.Result{
		codeOnly(impl.ErrRetries), {}, codeOnly(99, "x"), {Code: -1, Commit: math.MinInt, Value: math.MaxInt, Keys: make([]string, 25), Map: numbered(13)},
	}
	a1 := entries(entry("a", 1))
	list := []impl.Moment{
		{Op: opCreate("x", 1), Result: codeOnly(impl.ErrExists, "wrong")},
		{Result: kept[0]},
		{Op: opCommit("x", 0, set("b", 2)), Client: math.MaxInt, Wish: -7, Step: math.MinInt},
		{Op: opCommit("main", 1, set("a", 5)), Result: impl.Result{Map: numbered(13)}},
		{Result: kept[1]},
		{Op: opCommit("x", 1, set("a", 6)), Step: 5},
		{Op: opMerge("x", 4), Step: 4},
		{Op: opMerge("x", 1), Step: 5},
		{Op: impl.Op{}, Result: kept[2], Client: -1, Step: 5},
		{Op: opGet("main", "a")},
		{Op: opDelete("main")},
		{Op: opScan("main"), Result: impl.Result{Commit: 4, Map: a1}},
		{Result: kept[3]},
		{Op: opScan("x")},
		{Op: opCreate("main", 9)},
	}
	return list, []impl.Result{
		{Commit: 1}, kept[0], {Commit: 3}, {Commit: 4}, kept[1], {Commit: 5}, codeOnly(impl.ErrConflict, "a"), codeOnly(impl.ErrSame), kept[2],
		{Commit: 4, Value: 5}, {Commit: 4}, codeOnly(impl.ErrName), kept[3], {Commit: 5, Map: entries(entry("a", 6), entry("b", 2))}, codeOnly(impl.ErrNone),
	}
}

func TestPromise10Replay(t *testing.T) {
	list, results := anyMoments()
	b := startBase()
	end := base(append(slices.Clone(b.Store),
		commit(entries(entry("a", 1), entry("b", 2)), 1), commit(entries(entry("a", 5)), 1), commit(entries(entry("a", 6), entry("b", 2)), 3)),
		deleted("main", 3), live("dev", 2, 2), live("x", 5, 3))
	wantRuns(t, "Replay", replay(b, list), runs{b: end, list: results})
	for _, c := range validBases() {
		wantRuns(t, "Replay of nothing in "+c.name, replay(c.b, nil), runs{b: c.b})
		wantRuns(t, "Replay of an empty list in "+c.name, replay(c.b, []impl.Moment{}), runs{b: c.b})
		wantRuns(t, "Replay in "+c.name, replay(c.b, list), modelReplay(c.b, list))
		for n := range len(list) {
			wantRuns(t, fmt.Sprint("Replay in two parts ", n), replay(replay(c.b, list[:n]).b, list[n:]).after(replay(c.b, list[:n])), replay(c.b, list))
		}
	}
}

// after has the results of the first part before the ones of the second.
func (x runs) after(first runs) runs {
	x.list = append(slices.Clone(first.list), x.list...)
	return x
}

// TestPromise10ReplayIsDoOps executes the same operations, with moments
// without one between them.
func TestPromise10ReplayIsDoOps(t *testing.T) {
	for _, c := range validBases() {
		for ops := range slices.Chunk(validOps(), impl.MaxCommits/2) {
			list, want := []impl.Moment{}, oneByOne(c.b, ops)
			results := []impl.Result{}
			for i, m := range opMoments(ops...) {
				kept := codeOnly(i, "k")
				list = append(list, m, impl.Moment{Result: kept})
				results = append(results, want.list[i], kept)
			}
			wantRuns(t, "Replay in "+c.name, replay(c.b, list), runs{b: want.b, list: results})
			wantRuns(t, "Replay of operations alone in "+c.name, replay(c.b, opMoments(ops...)), want)
		}
	}
}

// TestPromise10OtherFieldsOfNoOp has Ops of kind 0 that are not zero: they are
// no operations, so they are not checked.
func TestPromise10OtherFieldsOfNoOp(t *testing.T) {
	for i, o := range []impl.Op{{From: 1}, {From: -1}, {Name: "main"}, {Name: "a b"}, {Key: "a"}, {Edits: numberedEdits(1)}, {Edits: numberedEdits(7)}} {
		kept := impl.Result{Code: impl.ErrFull, Commit: 3, Value: 4, Keys: names("a"), Map: numbered(2)}
		x := replay(startBase(), []impl.Moment{{Op: o, Result: kept}})
		wantRuns(t, fmt.Sprint("Replay ", i), x, runs{b: startBase(), list: []impl.Result{kept}})
	}
}

func TestPromise10CodesOfReplay(t *testing.T) {
	good, bad := base(line(2), live("main", 2, 1)), base(line(2), live("main", 3, 1))
	moments := func(n int, last ...impl.Op) []impl.Moment {
		return append(slices.Repeat(opMoments(opGet("main", "n")), n-len(last)), opMoments(last...)...)
	}
	noFrom := opCreate("main", 0)
	for i, v := range []struct {
		b    impl.Base
		list []impl.Moment
		code int
	}{
		{good, moments(impl.MaxCommits), impl.OK},
		{good, make([]impl.Moment, impl.MaxCommits), impl.OK},
		{good, moments(impl.MaxCommits, noFrom), impl.ErrBad},
		{good, append(opMoments(noFrom), moments(3)...), impl.ErrBad},
		{good, moments(3, impl.Op{}, noFrom, impl.Op{}), impl.ErrBad},
		{good, moments(2, impl.Op{Kind: 7, Name: "main"}), impl.ErrBad},
		{good, moments(2, impl.Op{Kind: -1}), impl.ErrBad},
		{good, moments(impl.MaxCommits + 1), impl.ErrMany},
		{good, make([]impl.Moment, impl.MaxCommits+1), impl.ErrMany},
		{good, moments(impl.MaxCommits+1, noFrom), impl.ErrMany},
		{good, moments(impl.MaxList, noFrom), impl.ErrMany},
		{good, make([]impl.Moment, impl.MaxList), impl.ErrMany},
		{good, moments(impl.MaxList + 1), impl.ErrLong},
		{good, make([]impl.Moment, impl.MaxList+1), impl.ErrLong},
		{bad, nil, impl.ErrBad},
		{bad, moments(1), impl.ErrBad},
		{bad, moments(impl.MaxCommits + 1), impl.ErrBad},
		{bad, make([]impl.Moment, impl.MaxList), impl.ErrBad},
		{bad, make([]impl.Moment, impl.MaxList+1), impl.ErrLong},
		{impl.Base{}, moments(impl.MaxList+1, noFrom), impl.ErrLong},
	} {
		want := runs{code: v.code}
		if v.code == 0 {
			want = modelReplay(v.b, v.list)
		}
		wantRuns(t, fmt.Sprint("Replay ", i), replay(v.b, v.list), want)
	}
	for _, c := range baseCases() {
		want := map[bool]runs{false: {b: c.b, list: make([]impl.Result, 2)}, true: {code: impl.ErrBad}}[c.bad]
		wantRuns(t, "Replay in "+c.name, replay(c.b, make([]impl.Moment, 2)), want)
	}
	for i, o := range badOps() {
		want := runs{code: impl.ErrBad}
		if o.Kind == 0 {
			want = modelReplay(good, moments(3, o, opScan("main")))
		}
		wantRuns(t, fmt.Sprint("Replay of invalid operation ", i), replay(good, moments(3, o, opScan("main"))), want)
	}
}

func TestPromise10MomentsOf(t *testing.T) {
	w := crossedWorld()
	m := w.Moments
	wantMoments(t, "crossed", w, 1, m[0], m[3])
	wantMoments(t, "crossed", w, 2, m[1], m[5])
	wantMoments(t, "not begun", w, 3)
	wantMoments(t, "finished", w, 4, m[2], m[4])
	wantMoments(t, "without wishes", w, 5)
	for _, c := range validWorlds() {
		for _, who := range append(noPicks(), 1, 2, 3, 4, 5) {
			if who >= 1 && who <= len(c.w.Clients) {
				wantMoments(t, c.name, c.w, who, modelMoments(c.w, who)...)
			} else if list, code := impl.MomentsOf(c.w, who); code != impl.ErrNone || len(list) > 0 {
				t.Error("MomentsOf", c.name, who, list, code)
			}
		}
	}
}

// everyPast has clients with these numbers of finished wishes, and calls run
// with all moments of these clients that a valid world may have.
func everyPast(done []int, run func(w impl.World)) {
	choices, total := []impl.Moment{}, 0
	w := world(startBase(), nil)
	for i, n := range done {
		w.Clients = append(w.Clients, finished(n))
		for wish := range n {
			choices = append(choices, impl.Moment{Client: i + 1, Wish: wish + 1, Op: opScan("main")})
		}
		total += n
	}
	numbers := []int{}
	for i := range choices {
		numbers = append(numbers, i)
	}
	everyPicks(total, numbers, func(picks []int) {
		if len(picks) == total {
			x := at(cloned(w), total)
			for i, p := range picks {
				x.Moments = append(x.Moments, choices[p])
				x.Moments[i].Step = i + 1
			}
			run(x)
		}
	})
}

// TestPromise10InOrder has moments with wishes that are missing, doubled or
// not in order, and with too many or too few of a client.
func TestPromise10InOrder(t *testing.T) {
	for i, v := range []struct{ done, count []int }{
		{nil, []int{1, 1}}, {[]int{0, 0}, []int{1, 1}}, {[]int{1}, []int{1, 1}}, {[]int{2}, []int{1, 4}}, {[]int{3}, []int{1, 27}},
		{[]int{1, 1}, []int{2, 4}}, {[]int{2, 1}, []int{3, 27}}, {[]int{0, 2}, []int{1, 4}}, {[]int{2, 2}, []int{6, 256}}, {[]int{1, 1, 1}, []int{6, 27}},
	} {
		yes, all := 0, 0
		everyPast(v.done, func(w impl.World) {
			want := modelInOrder(w)
			wantInOrder(t, fmt.Sprint(i), w, want)
			all++
			if want {
				yes++
			}
		})
		if yes != v.count[0] || all != v.count[1] {
			t.Error("worlds in order", v.done, yes, "of", all)
		}
	}
	wantInOrder(t, "crossed", crossedWorld(), false)
}
