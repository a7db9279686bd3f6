package tests

import (
	"fmt"
	"slices"
	"testing"

	"loop.example/g00737/impl"
)

var markCommit = impl.Commit{Parents: []int{77}, Map: []impl.Entry{markEntry}}

func guardCommit(c impl.Commit) impl.Commit {
	return impl.Commit{Parents: guard(c.Parents, 77), Map: guard(c.Map, markEntry)}
}

func guardStore(store []impl.Commit) []impl.Commit {
	out := []impl.Commit{}
	for _, c := range store {
		out = append(out, guardCommit(c))
	}
	return guard(out, markCommit)
}

// commitMemory has all of a commit, with the spare capacity of its slices.
func commitMemory(c impl.Commit) string { return fmt.Sprint(whole(c.Parents), whole(c.Map)) }

func storeMemory(store []impl.Commit) string {
	text := ""
	for _, c := range whole(store) {
		text += commitMemory(c) + "\n"
	}
	return text
}

func overNumbers(list []int) func() { return func() { fill(list, 99) } }

// overStore overwrites the slices inside the commits before the commits.
func overStore(store []impl.Commit) func() {
	return func() {
		for _, c := range whole(store) {
			fill(c.Parents, 99)
			fill(c.Map, entry("over", 99))
		}
		fill(store, impl.Commit{})
	}
}

func (w *arguments) addStores() {
	for _, c := range storeCases() {
		store := guardStore(c.store)
		w.storeNames = append(w.storeNames, c.name)
		w.stores = append(w.stores, store)
		w.storesBefore = append(w.storesBefore, storeMemory(store))
	}
	for _, v := range commitCases() {
		v.c = guardCommit(v.c)
		w.commits = append(w.commits, v)
		w.commitsBefore = append(w.commitsBefore, commitMemory(v.c))
	}
}

func (w *arguments) changedStore() string {
	for i, store := range w.stores {
		if storeMemory(store) != w.storesBefore[i] {
			return "store " + w.storeNames[i]
		}
	}
	for i, v := range w.commits {
		if commitMemory(v.c) != w.commitsBefore[i] {
			return "commit " + v.name
		}
	}
	return ""
}

func (w *arguments) storeCalls() []call {
	list := []call{}
	for i, store := range w.stores {
		name := w.storeNames[i]
		list = append(list, call{"StoreOK " + name, func() (string, func()) { return fmt.Sprint(impl.StoreOK(store)), nothing }})
		for j, other := range w.stores {
			list = append(list, call{"SameStore " + name + ", " + w.storeNames[j], func() (string, func()) {
				return fmt.Sprint(impl.SameStore(store, other)), nothing
			}})
		}
		for _, v := range w.commits {
			list = append(list, call{"AddCommit " + name + ", " + v.name, func() (string, func()) {
				x, id, code := impl.AddCommit(store, v.c)
				return fmt.Sprint(x, id, code), overStore(x)
			}})
		}
		for _, a := range numbersAround(store) {
			list = append(list, numberCalls(fmt.Sprint(name, ", ", a), store, a)...)
			for _, b := range numbersAround(store) {
				list = append(list, pairCalls(fmt.Sprint(name, ", ", a, ", ", b), store, a, b)...)
			}
		}
	}
	return list
}

func numberCalls(name string, store []impl.Commit, id int) []call {
	return []call{{"AncestorsOf " + name, func() (string, func()) {
		x, code := impl.AncestorsOf(store, id)
		return fmt.Sprint(x, code), overNumbers(x)
	}}, {"FirstLine " + name, func() (string, func()) {
		x, code := impl.FirstLine(store, id)
		return fmt.Sprint(x, code), overNumbers(x)
	}}}
}

func pairCalls(name string, store []impl.Commit, a, b int) []call {
	return []call{{"IsAncestor, BaseOf " + name, func() (string, func()) {
		up, one := impl.IsAncestor(store, a, b)
		base, two := impl.BaseOf(store, a, b)
		return fmt.Sprint(up, one, base, two), nothing
	}}, {"MergeCommits " + name, func() (string, func()) {
		x, keys, code := impl.MergeCommits(store, a, b)
		return fmt.Sprint(x, keys, code), overBoth(overEntries(x), overKeys(keys))
	}}}
}

// TestPromise1StoresAreNew uses the same memory in all places of the
// arguments; in a result, no two slices may share any.
func TestPromise1StoresAreNew(t *testing.T) {
	m, parents := numbered(3), []int{1}
	same := []impl.Commit{{Map: m}}
	for len(same) < impl.MaxCommits {
		same = append(same, impl.Commit{Parents: parents, Map: m})
	}
	for _, n := range []int{0, 1, 2, 5, impl.MaxCommits - 1, impl.MaxCommits} {
		last := impl.Commit{Map: m}
		if n > 0 {
			last.Parents = parents
		}
		store, _, code := impl.AddCommit(same[:n], last)
		if code != first(n == impl.MaxCommits, impl.ErrFull) {
			t.Fatal("AddCommit", n, code)
		}
		for i := range store {
			fill(store[i].Parents, 90+i)
			fill(store[i].Map, entry("own", i))
		}
		for i, c := range store {
			if len(c.Map) != 3 || c.Map[0] != entry("own", i) || i > 0 && c.Parents[0] != 90+i {
				t.Fatal("AddCommit: commit", i, "shares memory", c)
			}
		}
		fill(store, impl.Commit{})
		if !slices.Equal(m, numbered(3)) || parents[0] != 1 || !impl.StoreOK(same) {
			t.Fatal("AddCommit shares memory with an argument", n, m, parents)
		}
	}
}

func TestPromise1CommitResultsAreNew(t *testing.T) {
	store := guardStore(crossed())
	numbers := map[string]func() []int{
		"AncestorsOf": func() []int { x, _ := impl.AncestorsOf(store, 2); slices.Reverse(x); return x },
		"FirstLine":   func() []int { x, _ := impl.FirstLine(store, 2); return x },
	}
	for name, run := range numbers {
		one, two := run(), run()
		fill(one, 77)
		if !slices.Equal(two, []int{2, 1}) {
			t.Error(name, "shares memory", two)
		}
	}
	for _, v := range [][2]int{{2, 2}, {1, 2}, {2, 1}} {
		one, two := mergeCommits(store, v[0], v[1]), mergeCommits(store, v[0], v[1])
		fill(one.m, markEntry)
		if !slices.Equal(two.m, crossed()[1].Map) || !sameCommits(store, crossed()) {
			t.Error("MergeCommits", v, "shares memory", two)
		}
	}
	one, two := mergeCommits(store, 4, 5), mergeCommits(store, 4, 5)
	fill(one.keys, "over")
	if !slices.Equal(two.keys, []string{"a"}) {
		t.Error("the keys of MergeCommits share memory", two)
	}
}

func TestPromise1NilIsEmptyInStores(t *testing.T) {
	none, empty := impl.Commit{}, impl.Commit{Parents: []int{}, Map: []impl.Entry{}}
	for _, c := range []impl.Commit{none, empty} {
		if !impl.StoreOK([]impl.Commit{c}) {
			t.Error("StoreOK", c)
		}
		for _, other := range []impl.Commit{none, empty} {
			if !impl.SameStore([]impl.Commit{c}, []impl.Commit{other}) {
				t.Error("SameStore", c, other)
			}
		}
		for _, store := range [][]impl.Commit{nil, {}} {
			if x, id, code := impl.AddCommit(store, c); !sameCommits(x, []impl.Commit{none}) || id != 1 || code != 0 {
				t.Error("AddCommit", x, id, code)
			}
		}
	}
}
