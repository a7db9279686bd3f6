package tests

import (
	"fmt"
	"slices"
	"testing"

	"loop.example/g00737/impl"
)

var markOp = impl.Op{Kind: 77, Name: "mark"}

func guardBase(b impl.Base) impl.Base {
	return impl.Base{Store: guardStore(b.Store), Refs: guard(b.Refs, markRef)}
}

func guardOp(o impl.Op) impl.Op {
	o.Edits = guard(o.Edits, markEdit)
	return o
}

func guardOps(list []impl.Op) []impl.Op {
	out := []impl.Op{}
	for _, o := range list {
		out = append(out, guardOp(o))
	}
	return guard(out, markOp)
}

func baseMemory(b impl.Base) string { return storeMemory(b.Store) + fmt.Sprint(whole(b.Refs)) }

func opsMemory(list []impl.Op) string {
	text := ""
	for _, o := range whole(list) {
		text += fmt.Sprint(o, whole(o.Edits))
	}
	return text
}

func overBase(b impl.Base) func() { return overBoth(overStore(b.Store), overRefs(b.Refs)) }

func overResult(r impl.Result) func() { return overBoth(overKeys(r.Keys), overEntries(r.Map)) }

func overResults(list []impl.Result) func() {
	return func() {
		for _, r := range list {
			overResult(r)()
		}
		fill(list, impl.Result{Code: 99})
	}
}

func (w *arguments) addBases() {
	for _, c := range baseCases() {
		b := guardBase(c.b)
		w.baseNames = append(w.baseNames, c.name)
		w.bases = append(w.bases, b)
		w.basesBefore = append(w.basesBefore, baseMemory(b))
	}
	for _, list := range [][]impl.Op{validOps(), badOps()} {
		for part := range slices.Chunk(list, impl.MaxCommits) {
			w.ops = append(w.ops, guardOps(part))
		}
	}
	w.ops = append(w.ops, nil, guardOps(make([]impl.Op, impl.MaxCommits+1)), guardOps(make([]impl.Op, impl.MaxList+1)))
	for _, list := range w.ops {
		w.opsBefore = append(w.opsBefore, opsMemory(list))
	}
}

func (w *arguments) changedBase() string {
	for i, b := range w.bases {
		if baseMemory(b) != w.basesBefore[i] {
			return "repository " + w.baseNames[i]
		}
	}
	for i, list := range w.ops {
		if opsMemory(list) != w.opsBefore[i] {
			return fmt.Sprint("operations ", i)
		}
	}
	return ""
}

func (w *arguments) baseCalls() []call {
	calls := []call{}
	for i, m := range w.maps {
		calls = append(calls, call{"NewBase " + w.mapNames[i], func() (string, func()) {
			b, code := impl.NewBase(m)
			return fmt.Sprint(b, code), overBase(b)
		}})
	}
	for i, b := range w.bases {
		name := w.baseNames[i]
		calls = append(calls, call{"BaseOK " + name, func() (string, func()) { return fmt.Sprint(impl.BaseOK(b)), nothing }})
		for j, other := range w.bases {
			calls = append(calls, call{"SameBase " + name + ", " + w.baseNames[j], func() (string, func()) {
				return fmt.Sprint(impl.SameBase(b, other)), nothing
			}})
		}
		for j, list := range w.ops {
			calls = append(calls, opsCalls(fmt.Sprint(name, ", ", j), b, list)...)
		}
	}
	return calls
}

func opsCalls(name string, b impl.Base, list []impl.Op) []call {
	calls := []call{{"DoOps " + name, func() (string, func()) {
		x, results, code := impl.DoOps(b, list)
		return fmt.Sprint(x, results, code), overBoth(overBase(x), overResults(results))
	}}}
	for i, o := range list[:min(len(list), impl.MaxCommits)] {
		calls = append(calls, call{fmt.Sprint("OpOK, DoOp ", name, ", ", i), func() (string, func()) {
			x, r, code := impl.DoOp(b, o)
			return fmt.Sprint(impl.OpOK(o), x, r, code, impl.SameResult(r, r)), overBoth(overBase(x), overResult(r))
		}})
	}
	return calls
}

// sharedBase uses the same memory in all places.
func sharedBase(n int) (impl.Base, []impl.Entry) {
	m, parents := numbered(3), []int{1}
	store := []impl.Commit{{Map: m}}
	for len(store) < n {
		store = append(store, impl.Commit{Parents: parents, Map: m})
	}
	return base(store, live("main", n, 1), live("dev", 1, 1), deleted("old", 1)), m
}

// ownMemory overwrites every slice with numbers of its own and reports whether
// all of them are as they were written.
func ownMemory(b impl.Base, maps ...[]impl.Entry) bool {
	for _, c := range b.Store {
		maps = append(maps, c.Map)
	}
	for i, m := range maps {
		fill(m, entry("own", i))
	}
	for i, c := range b.Store {
		fill(c.Parents, i)
	}
	fill(b.Refs, live("over", 9, 99))
	for i, m := range maps {
		if slices.ContainsFunc(m, func(e impl.Entry) bool { return e != entry("own", i) }) {
			return false
		}
	}
	for i, c := range b.Store {
		if slices.ContainsFunc(c.Parents, func(p int) bool { return p != i }) {
			return false
		}
	}
	return true
}

func TestPromise1BasesAreNew(t *testing.T) {
	for _, n := range []int{1, 2, 5, impl.MaxCommits} {
		b, m := sharedBase(n)
		text := fmt.Sprint(b)
		ops := append(kinds("main"), kinds("old")...)
		ops = append(ops, opCreate("new", 1), opGet("dev", "k01"), opScan("dev"), opMerge("dev", n), opCommit("main", 0, set("k00", 9)), opCommit("dev", 1, gone("k00")))
		for _, o := range ops {
			x := doOp(b, o)
			if x.code != 0 || !ownMemory(x.b, x.r.Map) || fmt.Sprint(b) != text || !slices.Equal(m, numbered(3)) {
				t.Fatal("DoOp shares memory", n, o)
			}
		}
		x := doOps(b, append(ops, opScan("main"), opScan("main"), opScan("dev")))
		maps := [][]impl.Entry{}
		for _, r := range x.list {
			maps = append(maps, r.Map)
		}
		if x.code != 0 || !ownMemory(x.b, maps...) || fmt.Sprint(b) != text || !slices.Equal(m, numbered(3)) {
			t.Fatal("DoOps shares memory", n)
		}
	}
	m := guard(numbered(3), markEntry)
	b, _ := impl.NewBase(m)
	if !ownMemory(b, nil) || !slices.Equal(m, numbered(3)) {
		t.Error("NewBase shares memory", m)
	}
}

func TestPromise1ConflictsOfOpsAreNew(t *testing.T) {
	b := base(crossed(), crossedRefs()...)
	o := opCommit("main", 1, set("a", 5), set("b", 6))
	x := doOps(b, []impl.Op{o, o, opMerge("main", 5)})
	one := doOp(b, o)
	fill(one.r.Keys, "over")
	fill(x.list[0].Keys, "over")
	fill(x.list[2].Keys, "over")
	if !slices.Equal(x.list[1].Keys, []string{"a", "b"}) || !slices.Equal(doOp(b, o).r.Keys, []string{"a", "b"}) {
		t.Error("keys share memory", x.list)
	}
}

func TestPromise1NilIsEmptyInBases(t *testing.T) {
	none, empty := base([]impl.Commit{{}}, live("main", 1, 1)), base([]impl.Commit{{Parents: []int{}, Map: entries()}}, live("main", 1, 1))
	bare := impl.Base{Store: none.Store, Refs: []impl.Ref{}}
	if !impl.SameBase(none, empty) || !impl.SameBase(empty, none) || !impl.SameBase(bare, base(none.Store)) {
		t.Error("SameBase tells nil from empty")
	}
	if !impl.SameResult(impl.Result{}, impl.Result{Keys: []string{}, Map: entries()}) || !impl.SameResult(impl.Result{Keys: []string{}, Map: entries()}, impl.Result{}) {
		t.Error("SameResult tells nil from empty")
	}
	for _, m := range [][]impl.Entry{nil, {}} {
		if b, code := impl.NewBase(m); code != 0 || !sameBases(b, none) {
			t.Error("NewBase", b, code)
		}
	}
	for _, b := range []impl.Base{none, empty} {
		for _, o := range kinds("main") {
			nilled, emptied := o, o
			emptied.Edits = append([]impl.Edit{}, o.Edits...)
			if len(o.Edits) == 0 {
				nilled.Edits = nil
			}
			if !impl.OpOK(nilled) || !impl.OpOK(emptied) || !sameDone(doOp(b, nilled), doOp(none, emptied)) {
				t.Error("nil edits differ from empty ones", o)
			}
		}
		for _, list := range [][]impl.Op{nil, {}} {
			wantRuns(t, "DoOps of nothing", doOps(b, list), runs{b: none})
		}
	}
}

// TestPromise1BasesOfEarlierCalls keeps the results of earlier operations:
// they stay as they were, however the later ones go on.
func TestPromise1BasesOfEarlierCalls(t *testing.T) {
	b, _ := impl.NewBase(numbered(3))
	kept, texts := []done{}, []string{}
	for i := range 40 {
		for _, o := range []impl.Op{opCommit("main", 0, set("a", i)), opScan("main"), opCreate("dev", 1+i), opDelete("dev"), opCommit("main", 1, set("a", -1))} {
			x := doOp(b, o)
			kept, texts = append(kept, x), append(texts, fmt.Sprint(x))
			b = x.b
		}
	}
	for i, x := range kept {
		if fmt.Sprint(x) != texts[i] {
			t.Fatal("operation", i, "changed later", x, texts[i])
		}
	}
}
