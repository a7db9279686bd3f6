package tests

import (
	"fmt"
	"slices"
	"testing"

	"loop.example/g00737/impl"
)

func wantDone(t *testing.T, what string, got, want done) {
	t.Helper()
	if !sameDone(got, want) {
		t.Fatalf("%s: %v; want %v", what, got, want)
	}
}

func TestPromise6NewBase(t *testing.T) {
	for _, c := range mapCases() {
		want := base([]impl.Commit{commit(c.m)}, live("main", 1, 1))
		code := first(c.long, impl.ErrLong, c.bad, impl.ErrBad)
		if code != 0 {
			want = impl.Base{}
		}
		b, got := impl.NewBase(c.m)
		if got != code || !sameBases(b, want) || impl.BaseOK(b) == (code != 0) {
			t.Error("NewBase", c.name, b, got, "want", want, code)
		}
	}
}

func TestPromise6BaseOK(t *testing.T) {
	for _, c := range baseCases() {
		if impl.BaseOK(c.b) == c.bad {
			t.Error("BaseOK", c.name, !c.bad)
		}
	}
	for n := 1; n <= impl.MaxCommits; n++ {
		for head := 1; head <= impl.MaxCommits; head++ {
			if impl.BaseOK(base(line(n), deleted("a", 1), live("b", head, 1))) != (head <= n) {
				t.Fatal("BaseOK", n, head)
			}
		}
	}
}

func TestPromise6OpOK(t *testing.T) {
	for i, o := range validOps() {
		if !impl.OpOK(o) {
			t.Error("OpOK", i, o)
		}
	}
	for i, o := range badOps() {
		if impl.OpOK(o) {
			t.Error("OpOK", i, o.Kind, brief(o.Name), o.From, brief(o.Key), len(o.Edits))
		}
	}
	for _, c := range textCases() {
		for _, o := range kinds(c.t) {
			if impl.OpOK(o) != c.isName {
				t.Error("OpOK", o.Kind, brief(c.t))
			}
		}
		if impl.OpOK(opGet("a", c.t)) != c.isName {
			t.Error("OpOK of a key", brief(c.t))
		}
	}
	for _, c := range editCases() {
		if impl.OpOK(opCommit("a", 0, c.list...)) == c.bad || impl.OpOK(opCommit("a", 1, c.list...)) == c.bad {
			t.Error("OpOK of edits", c.name)
		}
	}
	for from := 0; from <= impl.MaxCommits; from++ {
		if !impl.OpOK(opCommit("a", from)) || impl.OpOK(opCreate("a", from)) != (from > 0) || impl.OpOK(opMerge("a", from)) != (from > 0) {
			t.Error("OpOK of From", from)
		}
	}
}

// example is an operation with its result, and what it changes.
type example struct {
	o   impl.Op
	r   impl.Result
	add []impl.Commit
	ref impl.Ref
}

func code(o impl.Op, code int, keys ...string) example {
	return example{o: o, r: impl.Result{Code: code, Keys: keys}}
}

// moves is an operation with which the branch goes to a commit that exists.
func moves(o impl.Op, id, version int) example {
	return example{o: o, r: impl.Result{Commit: id}, ref: live(o.Name, id, version)}
}

func adds(o impl.Op, id, version int, c impl.Commit) example {
	x := moves(o, id, version)
	x.add = []impl.Commit{c}
	return x
}

func checkExamples(t *testing.T, b impl.Base, list []example) {
	t.Helper()
	for i, x := range list {
		want := done{b: base(slices.Concat(b.Store, x.add), b.Refs...), r: x.r}
		if x.ref.Name != "" {
			want.b.Refs = with(b.Refs, x.ref)
		}
		wantDone(t, fmt.Sprint("example ", i, ": ", x.o), doOp(b, x.o), want)
	}
}

func TestPromise6Create(t *testing.T) {
	some := crossedRefs()
	checkExamples(t, base(crossed(), some[:7]...), []example{
		moves(opCreate("new", 7), 7, 1),
		moves(opCreate("old", 1), 1, 3),
		code(opCreate("main", 1), impl.ErrExists),
		code(opCreate("main", 4), impl.ErrExists),
		code(opCreate("top", 1), impl.ErrExists),
		code(opCreate("gone_top", 1), impl.ErrFull),
		code(opCreate("new", 8), impl.ErrNone),
		code(opCreate("main", 8), impl.ErrNone),
		code(opCreate("gone_top", impl.MaxCommits), impl.ErrNone),
	})
	checkExamples(t, base(crossed(), some...), []example{
		moves(opCreate("old", 2), 2, 3),
		code(opCreate("new", 1), impl.ErrFull),
		code(opCreate("near", 1), impl.ErrExists),
		code(opCreate("new", 8), impl.ErrNone),
	})
	checkExamples(t, base(padded(crossed(), impl.MaxCommits)), []example{moves(opCreate("new", impl.MaxCommits), impl.MaxCommits, 1)})
	checkExamples(t, base(line(impl.MaxCommits-1)), []example{code(opCreate("new", impl.MaxCommits), impl.ErrNone)})
}

func TestPromise6Delete(t *testing.T) {
	removes := func(name string, id, version int) example {
		return example{o: opDelete(name), r: impl.Result{Commit: id}, ref: deleted(name, version)}
	}
	for _, n := range []int{7, impl.MaxCommits} {
		checkExamples(t, base(padded(crossed(), n), crossedRefs()...), []example{
			removes("main", 4, 4),
			removes("dev", 5, 2),
			removes("near", 3, impl.MaxValue),
			code(opDelete("top"), impl.ErrFull),
			code(opDelete("old"), impl.ErrName),
			code(opDelete("gone_top"), impl.ErrName),
			code(opDelete("new"), impl.ErrName),
		})
	}
}

func entries(list ...impl.Entry) []impl.Entry { return list }

func TestPromise6Commit(t *testing.T) {
	a1, b1, c3 := entry("a", 1), entry("b", 1), entry("c", 3)
	checkExamples(t, base(crossed(), crossedRefs()...), []example{
		adds(opCommit("main", 0, set("c", 3)), 8, 4, commit(entries(a1, b1, c3), 4)),
		adds(opCommit("main", 4, set("c", 3)), 8, 4, commit(entries(a1, b1, c3), 4)),
		adds(opCommit("main", 1, set("c", 3)), 8, 4, commit(entries(a1, b1, c3), 4)),
		adds(opCommit("main", 1, set("a", 1), set("c", 3)), 8, 4, commit(entries(a1, b1, c3), 4)),
		adds(opCommit("main", 3, gone("b")), 8, 4, commit(entries(a1), 4)),
		adds(opCommit("main", 0, gone("a"), gone("b")), 8, 4, commit(nil, 4)),
		adds(opCommit("main", 7, set("d", 1)), 8, 4, commit(entries(a1, b1, entry("d", 1)), 4)),
		adds(opCommit("near", 0, set("c", 3)), 8, impl.MaxValue, commit(entries(entry("a", 0), b1, c3), 3)),
		code(opCommit("main", 0), impl.ErrSame),
		code(opCommit("main", 1), impl.ErrSame),
		code(opCommit("main", 0, set("a", 1)), impl.ErrSame),
		code(opCommit("main", 0, gone("none")), impl.ErrSame),
		code(opCommit("main", 1, set("a", 1)), impl.ErrSame),
		code(opCommit("main", 7, set("c", 3)), impl.ErrSame),
		code(opCommit("main", 1, set("a", 5), set("b", 6), set("c", 1)), impl.ErrConflict, "a", "b"),
		code(opCommit("main", 1, gone("a")), impl.ErrConflict, "a"),
		code(opCommit("left", 7, set("c", 4)), impl.ErrConflict, "c"),
		code(opCommit("main", 8, set("c", 3)), impl.ErrNone),
		code(opCommit("new", 8), impl.ErrNone),
		code(opCommit("old", impl.MaxCommits), impl.ErrNone),
		code(opCommit("new", 7), impl.ErrName),
		code(opCommit("new", 0), impl.ErrName),
		code(opCommit("old", 0, set("a", 1)), impl.ErrName),
		code(opCommit("gone_top", 1), impl.ErrName),
		code(opCommit("top", 0, set("c", 1)), impl.ErrFull),
		code(opCommit("top", 0), impl.ErrSame),
		code(opCommit("top", 1, set("a", 9)), impl.ErrConflict, "a"),
	})
}

func TestPromise6CommitWithoutRoom(t *testing.T) {
	twelve := wide()[1].Map
	checkExamples(t, base(wide(), live("main", 2, 2), live("dev", 3, 3)), []example{
		adds(opCommit("main", 0, gone("k00"), set("z", 1)), 8, 3, commit(append(slices.Clone(twelve[1:]), entry("z", 1)), 2)),
		adds(opCommit("main", 0, set("x2", 1)), 8, 3, commit(append(slices.Clone(twelve[:11]), entry("x2", 1)), 2)),
		code(opCommit("dev", 2, gone("x1")), impl.ErrSame),
		code(opCommit("main", 0, set("z", 1)), impl.ErrFull),
		code(opCommit("main", 1, set("z", 1)), impl.ErrFull),
		code(opCommit("dev", 2, set("z", 1)), impl.ErrFull),
		code(opCommit("dev", 2, set("y1", 8)), impl.ErrFull),
		code(opCommit("main", 1, set("x1", 8), set("z", 1)), impl.ErrConflict, "x1"),
		code(opCommit("main", 8, set("z", 1)), impl.ErrNone),
		code(opCommit("old", 2, set("z", 1)), impl.ErrName),
	})
	full := base(padded(crossed(), impl.MaxCommits), crossedRefs()...)
	checkExamples(t, full, []example{
		code(opCommit("main", 0, set("c", 3)), impl.ErrFull),
		code(opCommit("main", 1, set("c", 3)), impl.ErrFull),
		code(opCommit("top", 0, set("c", 3)), impl.ErrFull),
		code(opCommit("main", 0), impl.ErrSame),
		code(opCommit("main", 1, set("a", 5)), impl.ErrConflict, "a"),
		code(opCommit("new", 0), impl.ErrName),
		code(opCommit("main", impl.MaxCommits, set("pad", 1)), impl.ErrConflict, "pad"),
	})
	checkExamples(t, base(padded(crossed(), impl.MaxCommits-1), crossedRefs()...), []example{
		adds(opCommit("main", 3, gone("b")), impl.MaxCommits, 4, commit(entries(entry("a", 1)), 4)),
		code(opCommit("main", impl.MaxCommits), impl.ErrNone),
	})
}

func TestPromise6Merge(t *testing.T) {
	a1b1, all := entries(entry("a", 1), entry("b", 1)), entries(entry("a", 2), entry("b", 2), entry("c", 3))
	checkExamples(t, base(crossed(), crossedRefs()...), []example{
		adds(opMerge("left", 7), 8, 10, commit(all, 6, 7)),
		adds(opMerge("right", 6), 8, 10, commit(all, 7, 6)),
		adds(opMerge("near", 2), 8, impl.MaxValue, commit(a1b1, 3, 2)),
		moves(opMerge("main", 6), 6, 4),
		moves(opMerge("main", 7), 7, 4),
		moves(opMerge("dev", 6), 6, 2),
		moves(opMerge("near", 4), 4, impl.MaxValue),
		code(opMerge("main", 5), impl.ErrConflict, "a"),
		code(opMerge("dev", 4), impl.ErrConflict, "a"),
		code(opMerge("main", 4), impl.ErrSame),
		code(opMerge("main", 3), impl.ErrSame),
		code(opMerge("main", 1), impl.ErrSame),
		code(opMerge("top", 2), impl.ErrSame),
		code(opMerge("top", 1), impl.ErrSame),
		code(opMerge("top", 4), impl.ErrFull),
		code(opMerge("top", 3), impl.ErrFull),
		code(opMerge("new", 8), impl.ErrNone),
		code(opMerge("main", 8), impl.ErrNone),
		code(opMerge("old", impl.MaxCommits), impl.ErrNone),
		code(opMerge("new", 7), impl.ErrName),
		code(opMerge("old", 1), impl.ErrName),
		code(opMerge("gone_top", 1), impl.ErrName),
	})
	checkExamples(t, base(padded(crossed(), impl.MaxCommits), crossedRefs()...), []example{
		moves(opMerge("main", 6), 6, 4),
		code(opMerge("left", 7), impl.ErrFull),
		code(opMerge("main", 5), impl.ErrConflict, "a"),
		code(opMerge("main", 2), impl.ErrSame),
		code(opMerge("top", 5), impl.ErrFull),
	})
}

func TestPromise6MergeWithoutRoom(t *testing.T) {
	store := append(wide(), commit(modelOf(wide()[2].Map).edited([]impl.Edit{set("x1", 8)}).entries(), 1))
	refs := []impl.Ref{live("main", 2, 2), live("dev", 3, 3), live("right", 5, 5), live("near", 6, 6)}
	twelve, ten := wide()[1].Map, wide()[5].Map
	more := append(slices.Clone(ten), entry("x3", 7), entry("y1", 7))
	checkExamples(t, base(store, refs...), []example{
		adds(opMerge("main", 5), 9, 3, commit(twelve[2:], 2, 5)),
		adds(opMerge("near", 7), 9, 7, commit(more, 6, 7)),
		moves(opMerge("dev", 4), 4, 4),
		code(opMerge("main", 3), impl.ErrFull),
		code(opMerge("main", 4), impl.ErrFull),
		code(opMerge("dev", 2), impl.ErrFull),
		code(opMerge("main", 8), impl.ErrConflict, "x1"),
	})
}

// TestPromise6MergeThatChangesNothing has a branch that contains all changes
// of a commit that is no ancestor.
func TestPromise6MergeThatChangesNothing(t *testing.T) {
	a1, b1 := entry("a", 1), entry("b", 1)
	store := []impl.Commit{commit(nil), commit(entries(a1), 1), commit(entries(a1, b1), 1), commit(entries(a1), 1)}
	refs := []impl.Ref{live("main", 3, 1), live("dev", 2, 1), live("top", 3, impl.MaxValue)}
	checkExamples(t, base(store, refs...), []example{
		code(opMerge("main", 2), impl.ErrSame),
		code(opMerge("dev", 4), impl.ErrSame),
		code(opMerge("top", 2), impl.ErrSame),
		adds(opMerge("dev", 3), 5, 2, commit(entries(a1, b1), 2, 3)),
	})
	checkExamples(t, base(padded(store, impl.MaxCommits), refs...), []example{
		code(opMerge("main", 2), impl.ErrSame),
		code(opMerge("top", 2), impl.ErrSame),
		code(opMerge("dev", 3), impl.ErrFull),
	})
}

func TestPromise6GetAndScan(t *testing.T) {
	reads := func(o impl.Op, id, value int, m ...impl.Entry) example {
		return example{o: o, r: impl.Result{Commit: id, Value: value, Map: m}}
	}
	for _, n := range []int{7, impl.MaxCommits} {
		checkExamples(t, base(padded(crossed(), n), crossedRefs()...), []example{
			reads(opGet("main", "a"), 4, 1),
			reads(opGet("near", "a"), 3, 0),
			reads(opGet("top", "a"), 2, 1),
			reads(opGet("right", "c"), 7, 3),
			reads(opScan("right"), 7, 0, crossed()[6].Map...),
			reads(opScan("top"), 2, 0, crossed()[1].Map...),
			code(opGet("main", "c"), impl.ErrNone),
			code(opGet("main", "aa"), impl.ErrNone),
			code(opGet("new", "c"), impl.ErrName),
			code(opGet("old", "a"), impl.ErrName),
			code(opScan("new"), impl.ErrName),
			code(opScan("gone_top"), impl.ErrName),
		})
	}
	low := entry("abcdefghijkl", -impl.MaxValue)
	checkExamples(t, base([]impl.Commit{{}, commit(entries(low), 1)}, live("main", 1, 1), live("dev", 2, 1)), []example{
		reads(opScan("main"), 1, 0),
		reads(opGet("dev", low.Key), 2, low.Value),
		code(opGet("main", low.Key), impl.ErrNone),
	})
}

func TestPromise6SameBase(t *testing.T) {
	list := baseCases()
	for _, x := range list {
		for _, y := range list {
			if impl.SameBase(x.b, y.b) != (!x.bad && !y.bad && sameBases(x.b, y.b)) {
				t.Error("SameBase", x.name, y.name)
			}
		}
	}
	store, r := line(3), live("main", 1, 2)
	for i, other := range []impl.Base{
		base(line(2), r), base(line(4), r), base(ladder(3), r), base(store), base(store, r, live("dev", 1, 1)), base(store, live("Main", 1, 2)),
		base(store, live("main", 2, 2)), base(store, live("main", 1, 1)), base(store, deleted("main", 2)),
	} {
		if impl.SameBase(base(store, r), other) || impl.SameBase(other, base(store, r)) || !impl.SameBase(other, other) {
			t.Error("SameBase", i)
		}
	}
	if impl.SameBase(base(store, r, live("dev", 1, 1)), base(store, live("dev", 1, 1), r)) {
		t.Error("SameBase in another order")
	}
}

func TestPromise6SameResult(t *testing.T) {
	keys := make([]string, 25)
	list := []impl.Result{
		{}, {Code: 1}, {Code: -5}, {Code: 99}, {Commit: 1}, {Commit: 61}, {Value: 1}, {Value: -1}, {Value: impl.MaxValue + 1},
		{Keys: keys[:1]}, {Keys: keys[:24]}, {Keys: []string{"a"}}, {Keys: []string{"b", "a"}}, {Keys: []string{"a", "b"}},
		{Map: numbered(1)}, {Map: numbered(2)}, {Map: numbered(impl.MaxKeys)}, {Map: entries(entry("k00", 1))},
		{Code: 1, Commit: 2, Value: 3, Keys: []string{"a"}, Map: numbered(1)},
	}
	for i, a := range list {
		for j, b := range list {
			if impl.SameResult(a, b) != (i == j) {
				t.Error("SameResult", a, b, i != j)
			}
		}
	}
	for _, bad := range []impl.Result{{Keys: keys}, {Keys: make([]string, impl.MaxList+1)}, {Map: entries(entry("b", 1), entry("a", 1))}, {Map: numbered(impl.MaxKeys + 1)}, {Map: entries(entry("a", impl.MaxValue+1))}} {
		if impl.SameResult(bad, bad) || impl.SameResult(bad, impl.Result{}) || impl.SameResult(impl.Result{}, bad) {
			t.Error("SameResult of what is not valid", len(bad.Keys), len(bad.Map))
		}
	}
}

func TestPromise6Limits(t *testing.T) {
	for i, kind := range []int{impl.OpCreate, impl.OpDelete, impl.OpCommit, impl.OpMerge, impl.OpGet, impl.OpScan} {
		if kind != i+1 || kinds("a")[i].Kind != kind {
			t.Error("Kind", i+1, kind)
		}
	}
}
