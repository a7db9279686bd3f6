package tests

import (
	"fmt"
	"math/rand/v2"
	"slices"
	"testing"

	"loop.example/g00737/impl"
)

// checkDone holds for every operation, whatever its effect is.
func checkDone(t *testing.T, b impl.Base, o impl.Op, x done) {
	t.Helper()
	if x.code != 0 || !impl.BaseOK(x.b) || !impl.SameResult(x.r, x.r) {
		t.Fatal("not a repository with a result", o, x)
	}
	r := x.r
	if r.Code != 0 {
		if !sameBases(x.b, b) || !impl.SameBase(x.b, b) {
			t.Fatal("a Code with a change", o, x, b)
		}
		if (len(r.Keys) > 0) != (r.Code == impl.ErrConflict) || r.Commit != 0 || r.Value != 0 || len(r.Map) != 0 {
			t.Fatal("fields beside a Code", o, r)
		}
		return
	}
	reads := o.Kind == impl.OpGet || o.Kind == impl.OpScan
	if reads != sameBases(x.b, b) || len(r.Keys) > 0 || r.Commit < 1 || r.Commit > len(x.b.Store) {
		t.Fatal("not the effect of its Kind", o, x, b)
	}
	checkRefsDone(t, b, o, x)
	checkStoreDone(t, b, o, x)
}

// checkRefsDone expects that nothing but the branch of the operation changes,
// and that this counts as one change.
func checkRefsDone(t *testing.T, b impl.Base, o impl.Op, x done) {
	t.Helper()
	if o.Kind == impl.OpGet || o.Kind == impl.OpScan {
		return
	}
	next := live(o.Name, x.r.Commit, 1+findRef(b.Refs, o.Name).ref.Version)
	if o.Kind == impl.OpDelete {
		next = deleted(o.Name, next.Version)
	}
	if !slices.Equal(x.b.Refs, with(b.Refs, next)) {
		t.Fatal("references", o, x.b.Refs, b.Refs)
	}
}

// checkStoreDone expects the merge of what a new commit was made from as its
// map, also by Merge3 itself.
func checkStoreDone(t *testing.T, b impl.Base, o impl.Op, x done) {
	t.Helper()
	n, h := len(b.Store), findRef(b.Refs, o.Name).ref.Head
	if len(x.b.Store) == n {
		if !sameCommits(x.b.Store, b.Store) || o.Kind == impl.OpCommit {
			t.Fatal("store", o, x, b)
		}
		return
	}
	if len(x.b.Store) != n+1 || !sameCommits(x.b.Store[:n], b.Store) || x.r.Commit != n+1 {
		t.Fatal("not one commit more", o, x, b)
	}
	var want impl.Commit
	switch o.Kind {
	case impl.OpCommit:
		from := o.From
		if from == 0 {
			from = h
		}
		m, _ := impl.ApplyEdits(b.Store[from-1].Map, o.Edits)
		want = commit(merge3(b.Store[from-1].Map, m, b.Store[h-1].Map).m, h)
	case impl.OpMerge:
		want = commit(mergeCommits(b.Store, h, o.From).m, h, o.From)
	}
	if !sameCommits(x.b.Store[n:], []impl.Commit{want}) {
		t.Fatal("commit", o, x.b.Store[n], want)
	}
}

// TestPromise6EveryOp compares with a model: every operation in every
// repository, so that each Code meets those that come after it.
func TestPromise6EveryOp(t *testing.T) {
	counts := map[string]int{}
	for _, c := range validBases() {
		for _, o := range validOps() {
			x := doOp(c.b, o)
			wantDone(t, fmt.Sprint(c.name, ", ", o), x, modelDo(c.b, o))
			checkDone(t, c.b, o, x)
			counts[fmt.Sprint(o.Kind, " ", impl.CodeWord(x.r.Code))]++
		}
	}
	for kind, words := range map[int][]string{
		impl.OpCreate: {"ok", "none", "exists", "full"},
		impl.OpDelete: {"ok", "name", "full"},
		impl.OpCommit: {"ok", "none", "name", "full", "conflict", "same"},
		impl.OpMerge:  {"ok", "none", "name", "full", "conflict", "same"},
		impl.OpGet:    {"ok", "name", "none"},
		impl.OpScan:   {"ok", "name"},
	} {
		for _, word := range words {
			key := fmt.Sprint(kind, " ", word)
			if counts[key] == 0 {
				t.Error("not tested:", key)
			}
			delete(counts, key)
		}
	}
	if len(counts) > 0 {
		t.Error("Codes of other Kinds", counts)
	}
}

func TestPromise6Invalid(t *testing.T) {
	bad := done{code: impl.ErrBad}
	for _, c := range baseCases() {
		if c.bad {
			for _, o := range append(kinds("main"), kinds("new")...) {
				wantDone(t, "DoOp "+c.name, doOp(c.b, o), bad)
			}
		}
		for _, o := range badOps() {
			if !sameDone(doOp(c.b, o), bad) {
				t.Fatal("DoOp", c.name, o.Kind, brief(o.Name), o.From, brief(o.Key), len(o.Edits))
			}
		}
	}
}

// sequenceOps has operations on two branches that meet each other.
func sequenceOps() []impl.Op {
	return []impl.Op{
		opCreate("dev", 1), opCreate("dev", 2), opCreate("main", 3), opDelete("dev"), opDelete("main"),
		opCommit("main", 0, set("a", 1)), opCommit("main", 1, set("a", 2), set("b", 1)), opCommit("dev", 0, gone("a")), opCommit("dev", 1, set("b", 1)),
		opMerge("main", 2), opMerge("main", 3), opMerge("dev", 2), opMerge("dev", 3), opGet("dev", "a"), opScan("main"),
	}
}

func TestPromise6EverySequence(t *testing.T) {
	const depth = 4
	ends := 0
	var run func(left int, b impl.Base)
	run = func(left int, b impl.Base) {
		if left == 0 {
			ends++
			return
		}
		for _, o := range sequenceOps() {
			x := doOp(b, o)
			wantDone(t, fmt.Sprint(o), x, modelDo(b, o))
			checkDone(t, b, o, x)
			run(left-1, x.b)
		}
	}
	b, code := impl.NewBase(entries(entry("a", 0)))
	if code != 0 {
		t.Fatal("NewBase", code)
	}
	run(depth, b)
	if ends != 15*15*15*15 {
		t.Error("sequences", ends)
	}
}

// randomOp returns a valid operation on one of few branches, keys and values.
func randomOp(r *rand.Rand, commits int) impl.Op {
	name := []string{"main", "dev", "x", "y"}[r.IntN(4)]
	from := 1 + r.IntN(min(commits+1, impl.MaxCommits))
	switch r.IntN(12) {
	case 0, 1:
		return opCreate(name, from)
	case 2:
		return opDelete(name)
	case 3:
		return opGet(name, numbered(16)[r.IntN(16)].Key)
	case 4:
		return opScan(name)
	case 5, 6, 7:
		return opMerge(name, from)
	case 8:
		return opCommit(name, from, randomEdits(r)...)
	}
	return opCommit(name, 0, randomEdits(r)...)
}

func randomEdits(r *rand.Rand) []impl.Edit {
	list := []impl.Edit{}
	for _, e := range numbered(16) {
		switch r.IntN(12) {
		case 0:
			list = append(list, gone(e.Key))
		case 1, 2:
			list = append(list, set(e.Key, r.IntN(3)))
		}
	}
	return list[:min(len(list), impl.MaxEdits)]
}

// TestPromise6LongRuns goes on until the store is full and longer. The runs
// are always the same.
func TestPromise6LongRuns(t *testing.T) {
	for seed := range 10 {
		r := rand.New(rand.NewPCG(uint64(seed), 6))
		b, _ := impl.NewBase(numbered(r.IntN(impl.MaxKeys + 1)))
		for range 1500 {
			o := randomOp(r, len(b.Store))
			x := doOp(b, o)
			wantDone(t, fmt.Sprint(o), x, modelDo(b, o))
			checkDone(t, b, o, x)
			b = x.b
		}
		if len(b.Store) != impl.MaxCommits {
			t.Error("run", seed, "ends with", len(b.Store), "commits")
		}
	}
}

// runs has the results of several operations.
type runs struct {
	b    impl.Base
	list []impl.Result
	code int
}

func doOps(b impl.Base, list []impl.Op) runs {
	next, results, code := impl.DoOps(b, list)
	return runs{next, results, code}
}

func wantRuns(t *testing.T, what string, got, want runs) {
	t.Helper()
	if got.code != want.code || !sameBases(got.b, want.b) || !slices.EqualFunc(got.list, want.list, sameResults) {
		t.Fatalf("%s: %v; want %v", what, got, want)
	}
}

// oneByOne executes valid operations with DoOp.
func oneByOne(b impl.Base, list []impl.Op) runs {
	out := runs{b: b}
	for _, o := range list {
		x := doOp(out.b, o)
		out.b, out.list = x.b, append(out.list, x.r)
	}
	return out
}

func TestPromise6DoOps(t *testing.T) {
	for _, c := range validBases() {
		for list := range slices.Chunk(validOps(), impl.MaxCommits) {
			for _, n := range []int{0, 1, 2, len(list)} {
				wantRuns(t, fmt.Sprint("DoOps ", c.name, ", ", n), doOps(c.b, list[:n]), oneByOne(c.b, list[:n]))
			}
		}
	}
	for seed := range 50 {
		r := rand.New(rand.NewPCG(uint64(seed), 7))
		list := []impl.Op{}
		for range impl.MaxCommits {
			list = append(list, randomOp(r, len(list)))
		}
		b, _ := impl.NewBase(nil)
		x := doOps(b, list)
		wantRuns(t, fmt.Sprint("DoOps ", seed), x, oneByOne(b, list))
		half := doOps(b, list[:30])
		rest := doOps(half.b, list[30:])
		wantRuns(t, fmt.Sprint("DoOps in two parts ", seed), x, runs{b: rest.b, list: append(half.list, rest.list...)})
	}
}

// TestPromise6DoOpsGoesOn has operations that fail between those that do not.
func TestPromise6DoOpsGoesOn(t *testing.T) {
	b, _ := impl.NewBase(entries(entry("a", 1)))
	x := doOps(b, []impl.Op{
		opGet("dev", "a"), opCreate("dev", 2), opCommit("main", 0, set("a", 2)), opCreate("dev", 2), opCommit("dev", 1, set("a", 3)),
		opDelete("main"), opCommit("main", 0, set("a", 4)), opCommit("dev", 0, set("a", 2)), opGet("dev", "a"),
	})
	wantRuns(t, "DoOps", x, runs{
		b: base([]impl.Commit{commit(entries(entry("a", 1))), commit(entries(entry("a", 2)), 1)}, deleted("main", 3), live("dev", 2, 1)),
		list: []impl.Result{
			{Code: impl.ErrName}, {Code: impl.ErrNone}, {Commit: 2}, {Commit: 2}, {Code: impl.ErrConflict, Keys: []string{"a"}},
			{Commit: 2}, {Code: impl.ErrName}, {Code: impl.ErrSame}, {Commit: 2, Value: 2},
		},
	})
}

func TestPromise6CodesOfDoOps(t *testing.T) {
	good, bad := base(line(2), live("main", 2, 1)), base(line(2), live("main", 3, 1))
	ops := func(n int, last ...impl.Op) []impl.Op {
		return append(slices.Repeat([]impl.Op{opGet("main", "n")}, n-len(last)), last...)
	}
	for i, v := range []struct {
		b    impl.Base
		list []impl.Op
		code int
	}{
		{good, ops(impl.MaxCommits), impl.OK},
		{good, ops(impl.MaxCommits, impl.Op{}), impl.ErrBad},
		{good, append([]impl.Op{{}}, ops(3)...), impl.ErrBad},
		{good, ops(2, opCreate("main", 0)), impl.ErrBad},
		{good, ops(impl.MaxCommits + 1), impl.ErrMany},
		{good, ops(impl.MaxCommits+1, impl.Op{}), impl.ErrMany},
		{good, make([]impl.Op, impl.MaxList), impl.ErrMany},
		{good, ops(impl.MaxList + 1), impl.ErrLong},
		{good, make([]impl.Op, impl.MaxList+1), impl.ErrLong},
		{bad, nil, impl.ErrBad},
		{bad, ops(1), impl.ErrBad},
		{bad, ops(impl.MaxCommits + 1), impl.ErrBad},
		{bad, ops(impl.MaxList), impl.ErrBad},
		{bad, ops(impl.MaxList + 1), impl.ErrLong},
		{impl.Base{}, make([]impl.Op, impl.MaxList+1), impl.ErrLong},
	} {
		want := runs{code: v.code}
		if v.code == 0 {
			want = oneByOne(v.b, v.list)
		}
		wantRuns(t, fmt.Sprint("DoOps ", i), doOps(v.b, v.list), want)
	}
	for _, c := range baseCases() {
		wantRuns(t, "DoOps of nothing "+c.name, doOps(c.b, nil), map[bool]runs{false: {b: c.b}, true: {code: impl.ErrBad}}[c.bad])
	}
	for _, o := range badOps() {
		wantRuns(t, "DoOps of an invalid operation", doOps(good, ops(3, o, opScan("main"))), runs{code: impl.ErrBad})
	}
}
