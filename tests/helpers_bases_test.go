package tests

import (
	"fmt"
	"math"
	"slices"
	"strings"

	"loop.example/g00737/impl"
)

func base(store []impl.Commit, refs ...impl.Ref) impl.Base {
	return impl.Base{Store: store, Refs: refs}
}

func opCreate(name string, from int) impl.Op {
	return impl.Op{Kind: impl.OpCreate, Name: name, From: from}
}

func opDelete(name string) impl.Op { return impl.Op{Kind: impl.OpDelete, Name: name} }

func opCommit(name string, from int, edits ...impl.Edit) impl.Op {
	return impl.Op{Kind: impl.OpCommit, Name: name, From: from, Edits: edits}
}

func opMerge(name string, from int) impl.Op {
	return impl.Op{Kind: impl.OpMerge, Name: name, From: from}
}

func opGet(name, key string) impl.Op { return impl.Op{Kind: impl.OpGet, Name: name, Key: key} }

func opScan(name string) impl.Op { return impl.Op{Kind: impl.OpScan, Name: name} }

// kinds has a valid operation of each Kind.
func kinds(name string) []impl.Op {
	return []impl.Op{opCreate(name, 1), opDelete(name), opCommit(name, 1, set("a", 1)), opMerge(name, 1), opGet(name, "a"), opScan(name)}
}

// crossedRefs has references of every kind to the commits of crossed.
func crossedRefs() []impl.Ref {
	return []impl.Ref{
		live("main", 4, 3),
		deleted("old", 2),
		live("dev", 5, 1),
		live("left", 6, 9),
		live("right", 7, 9),
		live("top", 2, impl.MaxValue),
		deleted("gone_top", impl.MaxValue),
		live("near", 3, impl.MaxValue-1),
	}
}

// padded appends commits that no reference needs until there are n.
func padded(store []impl.Commit, n int) []impl.Commit {
	store = slices.Clone(store)
	for len(store) < n {
		store = append(store, commit([]impl.Entry{entry("pad", len(store))}, 1))
	}
	return store
}

// wide has maps of up to MaxKeys entries, whose merges may have more.
func wide() []impl.Commit {
	ten := numbered(10)
	grown := func(keys ...string) []impl.Entry {
		m := modelOf(ten)
		for _, key := range keys {
			m[key] = 7
		}
		return m.entries()
	}
	return []impl.Commit{
		commit(ten),
		commit(grown("x1", "x2"), 1),
		commit(grown("y1"), 1),
		commit(grown("y1", "y2"), 3),
		commit(ten[2:], 1),
		commit(grown("k00"), 2),
		commit(grown("y1", "k00", "x3"), 5),
	}
}

type baseCase struct {
	name string
	b    impl.Base
	bad  bool
}

func baseCases() []baseCase {
	some := crossedRefs()
	list := []baseCase{
		{name: "new", b: base(line(1), live("main", 1, 1))},
		{name: "no branches", b: base(crossed())},
		{name: "one branch that is gone", b: base(line(2), deleted("main", 2))},
		{name: "line", b: base(line(5), live("main", 3, 3), live("dev", 5, 1), live("left", 1, 7))},
		{name: "crossed", b: base(crossed(), some[:7]...)},
		{name: "crossed, all references", b: base(crossed(), some...)},
		{name: "wide", b: base(wide(), live("main", 2, 2), live("dev", 3, 3), live("left", 4, 4), live("right", 5, 5), live("near", 6, impl.MaxValue-1))},
		{name: "wide and full", b: base(padded(wide(), impl.MaxCommits), live("main", 2, 2), live("dev", 3, 3), live("top", 5, impl.MaxValue))},
		{name: "59 commits", b: base(padded(crossed(), impl.MaxCommits-1), some...)},
		{name: "60 commits", b: base(padded(crossed(), impl.MaxCommits), some...)},
		{name: "60 commits, last one", b: base(ladder(impl.MaxCommits), live("main", impl.MaxCommits, 1), live("dev", 31, impl.MaxValue))},
	}
	return append(list, badBases()...)
}

func badBases() []baseCase {
	list := []baseCase{
		{name: "nothing"},
		{name: "no commits", b: base(nil, live("main", 1, 1))},
		{name: "no commits, all gone", b: base([]impl.Commit{}, deleted("main", 1))},
		{name: "head beyond the store", b: base(line(1), live("main", 2, 1))},
		{name: "head beyond seven", b: base(crossed(), live("main", 7, 1), live("dev", 8, 1))},
		{name: "head 60 of 59", b: base(line(impl.MaxCommits-1), live("main", impl.MaxCommits, 1))},
		{name: "head 61", b: base(line(impl.MaxCommits), live("main", impl.MaxCommits+1, 1))},
		{name: "head beyond a store of 61", b: base(line(impl.MaxCommits+1), live("main", 1, 1))},
		{name: "no such head, gone", b: base(line(1), deleted("main", 1), live("dev", 2, 1))},
		{name: "commits beyond MaxList", b: base(line(impl.MaxList+1), live("main", 1, 1))},
		{name: "references beyond MaxList", b: base(line(1), make([]impl.Ref, impl.MaxList+1)...)},
		{name: "nine references", b: base(line(9), numberedRefs(impl.MaxRefs+1)...)},
		{name: "one name twice", b: base(line(2), live("main", 1, 1), live("main", 2, 1))},
	}
	for _, c := range badStores() {
		list = append(list, baseCase{name: "store: " + c.name, b: base(c.store, live("main", 1, 1))})
	}
	for i, r := range badRefs() {
		list = append(list, baseCase{name: fmt.Sprint("reference ", i), b: base(line(impl.MaxCommits), live("main", 1, 1), r)})
	}
	for i := range list {
		list[i].bad = true
	}
	return list
}

func validBases() []baseCase {
	return slices.DeleteFunc(baseCases(), func(c baseCase) bool { return c.bad })
}

// validOps has operations with effects and Codes of all kinds in the valid
// bases.
func validOps() []impl.Op {
	list := []impl.Op{}
	for _, name := range []string{"main", "dev", "old", "left", "right", "top", "gone_top", "near", "new", "abcdefghijkl"} {
		list = append(list, opDelete(name), opScan(name), opGet(name, "a"), opGet(name, "k00"), opGet(name, "none"))
		for _, from := range []int{1, 2, 3, 4, 5, 6, 7, 8, impl.MaxCommits - 1, impl.MaxCommits} {
			list = append(list, opCreate(name, from), opMerge(name, from))
		}
		for _, from := range []int{0, 1, 2, 4, 7, impl.MaxCommits} {
			for _, edits := range validEdits() {
				list = append(list, opCommit(name, from, edits...))
			}
		}
	}
	return list
}

func validEdits() [][]impl.Edit {
	return [][]impl.Edit{
		nil,
		{set("a", 1)},
		{set("a", 2), set("b", 5)},
		{gone("a"), gone("none")},
		{gone("k00"), set("z", impl.MaxValue)},
		{set("n", -impl.MaxValue)},
		{set("p1", 1), set("p2", 1), set("p3", 1), set("p4", 1), set("p5", 1), set("p6", 1)},
	}
}

// badOps breaks valid operations in one field each.
func badOps() []impl.Op {
	list := []impl.Op{{}, {Name: "a"}, {Kind: 7, Name: "a", From: 1, Key: "a", Edits: []impl.Edit{set("a", 1)}}}
	broken := func(o impl.Op, change func(o *impl.Op)) {
		change(&o)
		list = append(list, o)
	}
	for _, o := range kinds("a") {
		for _, kind := range []int{0, 7, -1, -o.Kind, o.Kind + 256, math.MaxInt, math.MinInt} {
			broken(o, func(o *impl.Op) { o.Kind = kind })
		}
		for _, name := range []string{"", "1", "a b", "abcdefghijklm", strings.Repeat("a", impl.MaxText+1)} {
			broken(o, func(o *impl.Op) { o.Name = name })
		}
		for _, from := range badFroms(o.Kind) {
			broken(o, func(o *impl.Op) { o.From = from })
		}
		for _, key := range badKeys(o.Kind) {
			broken(o, func(o *impl.Op) { o.Key = key })
		}
		for _, edits := range badEdits(o.Kind) {
			broken(o, func(o *impl.Op) { o.Edits = edits })
		}
	}
	return list
}

func badFroms(kind int) []int {
	list := []int{-1, impl.MaxCommits + 1, math.MaxInt, math.MinInt}
	switch kind {
	case impl.OpCreate, impl.OpMerge:
		return append(list, 0)
	case impl.OpCommit:
		return list
	}
	return append(list, 1, impl.MaxCommits)
}

func badKeys(kind int) []string {
	list := []string{"1", "a b", "abcdefghijklm", strings.Repeat("a", impl.MaxText+1)}
	if kind == impl.OpGet {
		return append(list, "")
	}
	return append(list, "a")
}

func badEdits(kind int) [][]impl.Edit {
	list := [][]impl.Edit{}
	for _, c := range editCases() {
		if c.bad || kind != impl.OpCommit && len(c.list) > 0 {
			list = append(list, c.list)
		}
	}
	return list
}

// done has the results of an operation.
type done struct {
	b    impl.Base
	r    impl.Result
	code int
}

func doOp(b impl.Base, o impl.Op) done {
	next, r, code := impl.DoOp(b, o)
	return done{next, r, code}
}

func sameBases(a, b impl.Base) bool {
	return sameCommits(a.Store, b.Store) && slices.Equal(a.Refs, b.Refs)
}

func sameResults(a, b impl.Result) bool {
	return a.Code == b.Code && a.Commit == b.Commit && a.Value == b.Value && slices.Equal(a.Keys, b.Keys) && slices.Equal(a.Map, b.Map)
}

func sameDone(a, b done) bool {
	return a.code == b.code && sameBases(a.b, b.b) && sameResults(a.r, b.r)
}

// modelDo executes a valid operation on maps and sets of numbers.
func modelDo(b impl.Base, o impl.Op) done {
	f, name := findRef(b.Refs, o.Name), textCase{t: o.Name, isName: true}
	switch code := first(o.From > len(b.Store), impl.ErrNone, o.Kind != impl.OpCreate && !f.live, impl.ErrName); {
	case code != 0:
		return failed(b, code)
	case o.Kind == impl.OpCreate:
		return modelRefsDone(b, modelCreate(refsCase{list: b.Refs}, name, o.From), o.From)
	case o.Kind == impl.OpDelete:
		return modelRefsDone(b, modelDelete(refsCase{list: b.Refs}, name), f.ref.Head)
	case o.Kind == impl.OpGet:
		c := modelOf(b.Store[f.ref.Head-1].Map).at(o.Key)
		if !c.found {
			return failed(b, impl.ErrNone)
		}
		return done{b: b, r: impl.Result{Commit: f.ref.Head, Value: c.value}}
	case o.Kind == impl.OpScan:
		return done{b: b, r: impl.Result{Commit: f.ref.Head, Map: b.Store[f.ref.Head-1].Map}}
	case o.Kind == impl.OpCommit:
		return modelCommit(b, o, f)
	}
	return modelMerge(b, o, f)
}

func failed(b impl.Base, code int) done { return done{b: b, r: impl.Result{Code: code}} }

func modelRefsDone(b impl.Base, x refs, id int) done {
	if x.code != 0 {
		return failed(b, x.code)
	}
	return done{b: impl.Base{Store: b.Store, Refs: x.list}, r: impl.Result{Commit: id}}
}

func (f found) head(b impl.Base) model { return modelOf(b.Store[f.ref.Head-1].Map) }

func modelCommit(b impl.Base, o impl.Op, f found) done {
	from := o.From
	if from == 0 {
		from = f.ref.Head
	}
	m := modelOf(b.Store[from-1].Map).edited(o.Edits)
	if len(m) > impl.MaxKeys {
		return failed(b, impl.ErrFull)
	}
	return modelAdd(b, f, mergeOf(modelOf(b.Store[from-1].Map), m, f.head(b)), f.ref.Head)
}

func modelMerge(b impl.Base, o impl.Op, f found) done {
	sets := ancestorSets(b.Store)
	switch id := greatest(sets[f.ref.Head] & sets[o.From]); id {
	case o.From:
		return failed(b, impl.ErrSame)
	case f.ref.Head:
		return modelMove(b, f, o.From)
	default:
		x := mergeOf(modelOf(b.Store[id-1].Map), f.head(b), modelOf(b.Store[o.From-1].Map))
		return modelAdd(b, f, x, f.ref.Head, o.From)
	}
}

func modelAdd(b impl.Base, f found, x merge, parents ...int) done {
	switch {
	case x.code != 0:
		return done{b: b, r: impl.Result{Code: x.code, Keys: x.keys}}
	case slices.Equal(x.m, b.Store[f.ref.Head-1].Map):
		return failed(b, impl.ErrSame)
	case len(b.Store) == impl.MaxCommits || f.full():
		return failed(b, impl.ErrFull)
	}
	store := append(slices.Clone(b.Store), commit(x.m, parents...))
	return modelMove(impl.Base{Store: store, Refs: b.Refs}, f, len(store))
}

func modelMove(b impl.Base, f found, id int) done {
	if f.full() {
		return failed(b, impl.ErrFull)
	}
	return done{b: impl.Base{Store: b.Store, Refs: with(b.Refs, live(f.ref.Name, id, f.ref.Version+1))}, r: impl.Result{Commit: id}}
}
