package tests

import (
	"fmt"
	"slices"
	"testing"

	"loop.example/g00737/impl"
)

// call is one call of a function. run returns the results as text, and a
// function that overwrites the memory of the results.
type call struct {
	name string
	run  func() (string, func())
}

var (
	markEntry = impl.Entry{Key: "mark", Value: 77}
	markEdit  = impl.Edit{Key: "mark", Value: 77}
)

func overEntries(list []impl.Entry) func() { return func() { fill(list, entry("over", 99)) } }

func overEdits(list []impl.Edit) func() { return func() { fill(list, set("over", 99)) } }

func nothing() {}

// arguments keeps the arguments of all calls, with their memory as it
// was before the first call.
type arguments struct {
	mapNames, editNames []string
	maps, mapsBefore    [][]impl.Entry
	edits, editsBefore  [][]impl.Edit
	storeNames          []string
	stores              [][]impl.Commit
	storesBefore        []string
	commits             []commitCase
	commitsBefore       []string
	refNames            []string
	refs, refsBefore    [][]impl.Ref
	baseNames           []string
	bases               []impl.Base
	basesBefore         []string
	ops                 [][]impl.Op
	opsBefore           []string
	eventNames          []string
	events              [][]impl.Event
	eventsBefore        [][]impl.Event
	watchNames          []string
	watches             []impl.Watch
	watchesBefore       []string
	clients             []impl.Client
	clientsBefore       []string
	wishes              [][]impl.Wish
	wishesBefore        []string
	moments             []impl.Moment
	momentsBefore       []string
	worldNames          []string
	worlds              []impl.World
	worldsBefore        []string
	wanted              [][][]impl.Wish
	watched             [][]string
	picks               [][]int
	runsBefore          string
	pasts               [][]impl.Moment
	pastsBefore         []string
	lines, linesBefore  [][]string
}

func newArguments() *arguments {
	w := &arguments{}
	for _, c := range mapCases() {
		m := guard(c.m, markEntry)
		w.mapNames = append(w.mapNames, c.name)
		w.maps = append(w.maps, m)
		w.mapsBefore = append(w.mapsBefore, slices.Clone(whole(m)))
	}
	for _, c := range editCases() {
		list := guard(c.list, markEdit)
		w.editNames = append(w.editNames, c.name)
		w.edits = append(w.edits, list)
		w.editsBefore = append(w.editsBefore, slices.Clone(whole(list)))
	}
	w.addStores()
	w.addRefs()
	w.addBases()
	w.addWatches()
	w.addClients()
	w.addWorlds()
	w.addPasts()
	w.addLines()
	return w
}

// changed names the first argument that is not as it was before, if any is.
func (w *arguments) changed() string {
	for i, m := range w.maps {
		if !slices.Equal(whole(m), w.mapsBefore[i]) {
			return "map " + w.mapNames[i]
		}
	}
	for i, list := range w.edits {
		if !slices.Equal(whole(list), w.editsBefore[i]) {
			return "edits " + w.editNames[i]
		}
	}
	if name := w.changedStore(); name != "" {
		return name
	}
	if name := w.changedRefs(); name != "" {
		return name
	}
	if name := w.changedBase(); name != "" {
		return name
	}
	if name := w.changedWatch(); name != "" {
		return name
	}
	if name := w.changedClient(); name != "" {
		return name
	}
	if name := w.changedWorld(); name != "" {
		return name
	}
	if name := w.changedPast(); name != "" {
		return name
	}
	return w.changedLines()
}

func (w *arguments) calls() []call {
	list := codeCalls()
	for i, m := range w.maps {
		list = append(list, w.mapCalls(w.mapNames[i], m)...)
	}
	for i, edits := range w.edits {
		list = append(list, call{"EditsOK " + w.editNames[i], func() (string, func()) {
			return fmt.Sprint(impl.EditsOK(edits)), nothing
		}})
	}
	return slices.Concat(list, w.mergeCalls(), w.storeCalls(), w.refCalls(), w.baseCalls(), w.watchCalls(), w.clientCalls(), w.worldCalls(), w.orderCalls(), w.snapCalls(), w.bytesCalls(), w.monitorCalls(), w.textCalls(), w.consoleCalls())
}

func codeCalls() []call {
	list := []call{}
	for _, c := range textCases() {
		list = append(list, call{"NameOK, CodeOf " + brief(c.t), func() (string, func()) {
			return fmt.Sprint(impl.NameOK(c.t), impl.CodeOf(c.t)), nothing
		}})
	}
	for _, v := range append(values(), 18, 19) {
		list = append(list, call{fmt.Sprint("CodeWord ", v), func() (string, func()) {
			return impl.CodeWord(v), nothing
		}})
	}
	return list
}

func (w *arguments) mapCalls(name string, m []impl.Entry) []call {
	list := []call{{"MapOK " + name, func() (string, func()) { return fmt.Sprint(impl.MapOK(m)), nothing }}}
	for i, other := range w.maps {
		both := name + ", " + w.mapNames[i]
		list = append(list, call{"SameMap " + both, func() (string, func()) {
			return fmt.Sprint(impl.SameMap(m, other)), nothing
		}}, call{"Diff " + both, func() (string, func()) {
			d, code := impl.Diff(m, other)
			return fmt.Sprint(d, code), overEdits(d)
		}})
	}
	for i, edits := range w.edits {
		list = append(list, call{"ApplyEdits " + name + ", " + w.editNames[i], func() (string, func()) {
			x, code := impl.ApplyEdits(m, edits)
			return fmt.Sprint(x, code), overEntries(x)
		}})
	}
	for _, c := range textCases() {
		list = append(list, keyCalls(name+", "+brief(c.t), m, c.t)...)
	}
	return list
}

func keyCalls(name string, m []impl.Entry, key string) []call {
	list := []call{{"Get " + name, func() (string, func()) {
		v, code := impl.Get(m, key)
		return fmt.Sprint(v, code), nothing
	}}, {"Remove " + name, func() (string, func()) {
		x, code := impl.Remove(m, key)
		return fmt.Sprint(x, code), overEntries(x)
	}}}
	for _, v := range values() {
		list = append(list, call{fmt.Sprint("Put ", name, ", ", v), func() (string, func()) {
			x, code := impl.Put(m, key, v)
			return fmt.Sprint(x, code), overEntries(x)
		}})
	}
	for _, to := range textCases() {
		list = append(list, call{"Scan " + name + ", " + brief(to.t), func() (string, func()) {
			x, code := impl.Scan(m, key, to.t)
			return fmt.Sprint(x, code), overEntries(x)
		}})
	}
	return list
}

// TestPromise1ArgumentsKept also overwrites every result: an argument that
// changes by that shares memory with it.
func TestPromise1ArgumentsKept(t *testing.T) {
	w := newArguments()
	for _, c := range w.calls() {
		_, over := c.run()
		over()
	}
	if name := w.changed(); name != "" {
		t.Fatal("a call or a write to a result changed", name)
	}
}

func TestPromise1NoEarlierCallCounts(t *testing.T) {
	list := newArguments().calls()
	first := make([]string, len(list))
	for i, c := range list {
		text, over := c.run()
		first[i] = text
		over()
	}
	for i := len(list) - 1; i >= 0; i-- {
		if text, _ := list[i].run(); text != first[i] {
			t.Fatal(list[i].name, first[i], text)
		}
	}
}

func TestPromise1EqualArguments(t *testing.T) {
	one, two := newArguments().calls(), newArguments().calls()
	for i := range one {
		a, _ := one[i].run()
		if b, _ := two[i].run(); a != b {
			t.Fatal(one[i].name, a, b)
		}
	}
}

func TestPromise1ResultsAreNew(t *testing.T) {
	m, edits := guard(numbered(3), markEntry), []impl.Edit{gone("zz")}
	calls := map[string]func() []impl.Entry{
		"Put":               func() []impl.Entry { x, _ := impl.Put(m, "k01", 1); return x },
		"Put at the end":    func() []impl.Entry { x, _ := impl.Put(m, "z", 1); return x },
		"Remove":            func() []impl.Entry { x, _ := impl.Remove(m, "k02"); return x },
		"Remove nothing":    func() []impl.Entry { x, _ := impl.Remove(m, "z"); return x },
		"ApplyEdits":        func() []impl.Entry { x, _ := impl.ApplyEdits(m, edits); return x },
		"ApplyEdits, none":  func() []impl.Entry { x, _ := impl.ApplyEdits(m, nil); return x },
		"Scan":              func() []impl.Entry { x, _ := impl.Scan(m, "", ""); return x },
		"Scan of the first": func() []impl.Entry { x, _ := impl.Scan(m, "k00", "k01"); return x },
	}
	for name, run := range calls {
		one, two := run(), run()
		text := fmt.Sprint(two)
		fill(one, markEntry)
		if fmt.Sprint(two) != text || !slices.Equal(m, numbered(3)) {
			t.Error(name, "shares memory")
		}
	}
	one, _ := impl.Diff(m, nil)
	two, _ := impl.Diff(m, nil)
	fill(one, markEdit)
	if !slices.Equal(two, []impl.Edit{gone("k00"), gone("k01"), gone("k02")}) {
		t.Error("Diff shares memory", two)
	}
}

func TestPromise1NilIsEmpty(t *testing.T) {
	none, noEdits := []impl.Entry{}, []impl.Edit{}
	if !impl.MapOK(nil) || !impl.MapOK(none) || !impl.EditsOK(nil) || !impl.EditsOK(noEdits) {
		t.Error("an empty list is not valid")
	}
	if !impl.SameMap(nil, none) || !impl.SameMap(none, nil) || !impl.SameMap(nil, nil) || !impl.SameMap(none, none) {
		t.Error("SameMap tells nil from empty")
	}
	for _, m := range [][]impl.Entry{nil, none} {
		for _, list := range [][]impl.Edit{nil, noEdits, {gone("a")}} {
			if x, code := impl.ApplyEdits(m, list); len(x) != 0 || code != 0 {
				t.Error("ApplyEdits", m, list, x, code)
			}
		}
	}
}
