package tests

import (
	"fmt"
	"slices"
	"testing"

	"loop.example/g00737/impl"
)

func wantGrows(t *testing.T, what string, a, b impl.Base, want bool) {
	t.Helper()
	if yes, code := impl.GrowsFrom(a, b); yes != want || code != 0 {
		t.Fatalf("GrowsFrom, %s: %v, code %d; want %v", what, yes, code, want)
	}
}

// grownBase has room for commits and references.
func grownBase() impl.Base {
	return base(crossed(), live("main", 4, 3), deleted("old", 2), live("dev", 5, 1), live("top", 2, impl.MaxValue))
}

func TestPromise13GrowsExamples(t *testing.T) {
	a, store := grownBase(), crossed()
	refs := func(list ...impl.Ref) impl.Base { return base(store, list...) }
	main, old, dev, top := a.Refs[0], a.Refs[1], a.Refs[2], a.Refs[3]
	for _, x := range []growth{
		{"not at all", grownBase(), true},
		{"by a commit", behind(a, 1, 0), true},
		{"by all commits", behind(a, impl.MaxCommits, 0), true},
		{"by a merge", base(append(crossed(), commit(nil, 7, 6)), a.Refs...), true},
		{"by a reference", behind(a, 0, 1), true},
		{"by all references", behind(a, 0, impl.MaxRefs), true},
		{"by a reference that is gone", refs(main, old, dev, top, deleted("new", 2)), true},
		{"by both", behind(a, 3, 3), true},
		{"another head", refs(live("main", 7, 4), old, dev, top), true},
		{"an earlier head", refs(live("main", 1, 4), old, dev, top), true},
		{"the same head", refs(live("main", 4, 4), old, dev, top), true},
		{"many changes", refs(live("main", 4, impl.MaxValue), old, dev, top), true},
		{"deleted", refs(deleted("main", 4), old, dev, top), true},
		{"created again", refs(main, live("old", 1, 3), dev, top), true},
		{"created and deleted again", refs(main, deleted("old", 4), dev, top), true},
		{"all that can", base(behind(a, 5, 0).Store, live("main", 12, 9), live("old", 11, 9), deleted("dev", 9), top, live("new", 10, 1)), true},
		{"another head, equal Version", refs(live("main", 5, 3), old, dev, top), false},
		{"gone, equal Version", refs(deleted("main", 3), old, dev, top), false},
		{"not gone, equal Version", refs(main, live("old", 1, 2), dev, top), false},
		{"another head at MaxValue", refs(main, old, dev, live("top", 3, impl.MaxValue)), false},
		{"gone at MaxValue", refs(main, old, dev, deleted("top", impl.MaxValue)), false},
		{"a Version less", refs(live("main", 4, 2), old, dev, top), false},
		{"a Version less, gone", refs(main, deleted("old", 1), dev, top), false},
		{"the Version 1", refs(live("main", 4, 1), old, dev, top), false},
		{"no references", refs(), false},
		{"the last one lost", refs(main, old, dev), false},
		{"the first one lost", refs(old, dev, top), false},
		{"one lost, one more", refs(main, old, dev, live("new", 2, impl.MaxValue)), false},
		{"one that is gone lost", refs(main, dev, top), false},
		{"another order", refs(main, dev, old, top), false},
		{"the first one behind", refs(old, dev, top, main), false},
		{"another Name", refs(live("Main", 4, 3), old, dev, top), false},
		{"another Name, greater Version", refs(live("maim", 4, 9), old, dev, top), false},
		{"another Name, gone", refs(main, deleted("new", 9), dev, top), false},
		{"one more in front", refs(live("new", 1, 1), main, old, dev, top), false},
		{"a commit lost", base(store[:6], a.Refs...), false},
		{"a commit lost, all Versions greater", base(store[:1], newerRefs(refs(main, old, dev).Refs)...), false},
	} {
		if !impl.BaseOK(x.b) {
			t.Fatal("not valid", x.name)
		}
		wantGrows(t, x.name, a, x.b, x.yes)
	}
}

func TestPromise13GrowsOfChangedStores(t *testing.T) {
	a := grownBase()
	list := changedStores(a.Store)
	for i, store := range list {
		b := base(store, a.Refs...)
		if !impl.BaseOK(b) || sameCommits(store, a.Store) {
			t.Fatal("store", i)
		}
		wantGrows(t, fmt.Sprint("store ", i), a, b, false)
		wantGrows(t, fmt.Sprint("back from store ", i), b, a, false)
		wantGrows(t, fmt.Sprint("store with more behind ", i), a, behind(b, 3, 3), false)
		wantGrows(t, fmt.Sprint("store with newer references ", i), a, base(store, newerRefs(a.Refs)...), false)
		wantGrows(t, fmt.Sprint("store itself ", i), b, behind(b, 3, 3), true)
	}
	if len(list) < 100 {
		t.Error("changed stores", len(list))
	}
}

// TestPromise13GrowsOfFullStores changes one Value or one parent, or loses the
// last commit.
func TestPromise13GrowsOfFullStores(t *testing.T) {
	for _, full := range [][]impl.Commit{line(impl.MaxCommits), ladder(impl.MaxCommits)} {
		a := base(full, live("main", 1, 1))
		for i, c := range full {
			valued, turned := slices.Clone(full), slices.Clone(full)
			valued[i].Map = entries(entry("n", -1))
			wantGrows(t, fmt.Sprint("Value of ", i), a, base(valued, a.Refs...), false)
			wantGrows(t, fmt.Sprint("the first ", i+1), base(full[:i+1], a.Refs...), a, true)
			wantGrows(t, fmt.Sprint("back to the first ", i+1), a, base(full[:i+1], a.Refs...), i+1 == len(full))
			if i > 1 {
				turned[i].Parents = []int{c.Parents[0] - 1, c.Parents[0]}
				wantGrows(t, fmt.Sprint("parents of ", i), a, base(turned, a.Refs...), false)
			}
		}
	}
}

func TestPromise13GrowsOfChangedRefs(t *testing.T) {
	a := grownBase()
	counts := map[bool]int{}
	for i, refs := range changedRefs(a) {
		b := base(a.Store, refs...)
		if !impl.BaseOK(b) {
			t.Fatal("references", refs)
		}
		want := modelGrows(a, b)
		counts[want]++
		wantGrows(t, fmt.Sprint("references ", i, refs), a, b, want)
		wantGrows(t, fmt.Sprint("back from references ", i, refs), b, a, modelGrows(b, a))
		wantGrows(t, fmt.Sprint("references with more behind ", i, refs), a, behind(b, 3, 3), want)
	}
	if counts[true] < 50 || counts[false] < 50 {
		t.Error("references", counts)
	}
	for i, refs := range misplacedRefs(a.Refs) {
		for _, list := range [][]impl.Ref{refs, newerRefs(refs)} {
			b := base(a.Store, list...)
			if !impl.BaseOK(b) {
				t.Fatal("references", list)
			}
			wantGrows(t, fmt.Sprint("misplaced references ", i, list), a, b, false)
			wantGrows(t, fmt.Sprint("misplaced references with more behind ", i, list), a, behind(b, 3, 3), false)
		}
	}
}

// TestPromise13GrowsOfEveryPair compares with a model.
func TestPromise13GrowsOfEveryPair(t *testing.T) {
	list := []impl.Base{grownBase(), behind(grownBase(), 1, 1), behind(grownBase(), 9, 9)}
	for _, c := range validBases() {
		list = append(list, c.b, base(c.b.Store, newerRefs(c.b.Refs)...), behind(c.b, 1, 0), behind(c.b, 0, 1), base(behind(c.b, 2, 0).Store, newerRefs(c.b.Refs)...), base(c.b.Store))
	}
	counts := map[bool]int{}
	for i, a := range list {
		for j, b := range list {
			want := modelGrows(a, b)
			counts[want]++
			wantGrows(t, fmt.Sprint("pair ", i, ", ", j), a, b, want)
			if want && modelGrows(b, a) != sameBases(a, b) {
				t.Fatal("both grow from each other", i, j)
			}
		}
	}
	if counts[true] < 100 || counts[false] < 1000 {
		t.Error("pairs", counts)
	}
}

func TestPromise13CodesOfGrowsFrom(t *testing.T) {
	for i, a := range baseCases() {
		for j, b := range baseCases() {
			want := a.bad || b.bad
			yes, code := impl.GrowsFrom(a.b, b.b)
			if (code == impl.ErrBad) != want || !want && code != 0 || want && yes {
				t.Fatal("GrowsFrom", a.name, b.name, yes, code)
			}
			if i == j && !want && !yes {
				t.Fatal("GrowsFrom itself", a.name)
			}
		}
	}
}
