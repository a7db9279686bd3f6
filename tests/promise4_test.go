package tests

import (
	"fmt"
	"slices"
	"testing"

	"loop.example/g00737/impl"
)

func wantBase(t *testing.T, store []impl.Commit, a, b, want int) {
	t.Helper()
	for _, v := range [][2]int{{a, b}, {b, a}} {
		if base, code := impl.BaseOf(store, v[0], v[1]); base != want || code != 0 {
			t.Fatalf("BaseOf %v of %v: %d, code %d; want %d", v, store, base, code, want)
		}
	}
}

func wantNumbers(t *testing.T, what string, got []int, code int, want []int) {
	t.Helper()
	if !slices.Equal(got, want) || code != 0 {
		t.Fatalf("%s: %v, code %d; want %v", what, got, code, want)
	}
}

func TestPromise4OneCommit(t *testing.T) {
	m := numbered(3)
	store := []impl.Commit{commit(m)}
	all, code := impl.AncestorsOf(store, 1)
	wantNumbers(t, "AncestorsOf", all, code, []int{1})
	path, code := impl.FirstLine(store, 1)
	wantNumbers(t, "FirstLine", path, code, []int{1})
	wantBase(t, store, 1, 1, 1)
	if up, code := impl.IsAncestor(store, 1, 1); !up || code != 0 {
		t.Error("IsAncestor", up, code)
	}
	if x, keys, code := impl.MergeCommits(store, 1, 1); !slices.Equal(x, m) || len(keys) != 0 || code != 0 {
		t.Error("MergeCommits", x, keys, code)
	}
}

// TestPromise4OwnAncestor has pairs of which one is an ancestor of the other.
func TestPromise4OwnAncestor(t *testing.T) {
	for _, store := range [][]impl.Commit{line(impl.MaxCommits), ladder(impl.MaxCommits)} {
		for a := 1; a <= impl.MaxCommits; a++ {
			for b := a; b <= impl.MaxCommits; b++ {
				wantBase(t, store, a, b, a)
				up, one := impl.IsAncestor(store, a, b)
				down, two := impl.IsAncestor(store, b, a)
				if !up || down != (a == b) || one != 0 || two != 0 {
					t.Fatal("IsAncestor", a, b, up, one, down, two)
				}
			}
		}
	}
}

func TestPromise4MergedBefore(t *testing.T) {
	store := crossed()
	for _, v := range [][3]int{{2, 3, 1}, {4, 2, 2}, {4, 3, 3}, {5, 2, 2}, {5, 3, 3}, {4, 5, 3}, {6, 4, 4}, {6, 5, 5}, {7, 4, 4}, {7, 5, 5}, {6, 7, 5}, {7, 3, 3}, {6, 1, 1}} {
		wantBase(t, store, v[0], v[1], v[2])
	}
	lines := [][]int{{1}, {2, 1}, {3, 1}, {4, 2, 1}, {5, 3, 1}, {6, 5, 3, 1}, {7, 4, 2, 1}}
	all := [][]int{{1}, {1, 2}, {1, 3}, {1, 2, 3, 4}, {1, 2, 3, 5}, {1, 2, 3, 4, 5, 6}, {1, 2, 3, 4, 5, 7}}
	for i := range store {
		got, code := impl.FirstLine(store, i+1)
		wantNumbers(t, "FirstLine", got, code, lines[i])
		got, code = impl.AncestorsOf(store, i+1)
		wantNumbers(t, "AncestorsOf", got, code, all[i])
	}
}

// TestPromise4MergedOnce has a branch that was merged and then went on: the
// base is the commit that was merged, not the one where the branch began.
func TestPromise4MergedOnce(t *testing.T) {
	store := []impl.Commit{commit(nil), commit(nil, 1), commit(nil, 1), commit(nil, 3), commit(nil, 2, 4), commit(nil, 4), commit(nil, 5), commit(nil, 1)}
	for _, v := range [][3]int{{6, 7, 4}, {6, 5, 4}, {2, 6, 1}, {7, 3, 3}, {7, 2, 2}, {8, 7, 1}, {8, 6, 1}} {
		wantBase(t, store, v[0], v[1], v[2])
	}
	for _, v := range [][2]int{{6, 7}, {7, 6}, {2, 6}, {6, 2}, {8, 7}, {5, 6}, {5, 4}} {
		if up, code := impl.IsAncestor(store, v[0], v[1]); up || code != 0 {
			t.Error("IsAncestor", v, up, code)
		}
	}
}

// TestPromise4ManyWays does not end if every way to an ancestor is walked.
func TestPromise4ManyWays(t *testing.T) {
	store := ladder(impl.MaxCommits)
	want := []int{}
	for n := 1; n <= impl.MaxCommits; n++ {
		want = append(want, n)
	}
	all, code := impl.AncestorsOf(store, impl.MaxCommits)
	wantNumbers(t, "AncestorsOf", all, code, want)
	slices.Reverse(want)
	path, code := impl.FirstLine(store, impl.MaxCommits)
	wantNumbers(t, "FirstLine", path, code, want)
	if m, keys, code := impl.MergeCommits(store, impl.MaxCommits, impl.MaxCommits-1); !slices.Equal(m, store[impl.MaxCommits-1].Map) || len(keys) != 0 || code != 0 {
		t.Error("MergeCommits", m, keys, code)
	}
}

func checkGraph(t *testing.T, store []impl.Commit) {
	t.Helper()
	if !impl.StoreOK(store) {
		t.Fatal("StoreOK", store)
	}
	sets := ancestorSets(store)
	for a := 1; a <= len(store); a++ {
		all, code := impl.AncestorsOf(store, a)
		wantNumbers(t, fmt.Sprint("AncestorsOf ", store, a), all, code, inSet(sets[a]))
		path, code := impl.FirstLine(store, a)
		wantNumbers(t, fmt.Sprint("FirstLine ", store, a), path, code, modelLine(store, a))
		for b := 1; b <= len(store); b++ {
			if base, code := impl.BaseOf(store, a, b); base != greatest(sets[a]&sets[b]) || code != 0 {
				t.Fatal("BaseOf", store, a, b, base, code)
			}
			if up, code := impl.IsAncestor(store, a, b); up != (sets[b]>>a&1 == 1) || code != 0 {
				t.Fatal("IsAncestor", store, a, b, up, code)
			}
		}
	}
}

func TestPromise4EveryStore(t *testing.T) {
	count := 0
	for n := 1; n <= 5; n++ {
		everyStore(n, func(store []impl.Commit) {
			checkGraph(t, store)
			count++
		})
	}
	if count != 1+1+4+4*9+4*9*16 {
		t.Error("stores", count)
	}
}

func TestPromise4FullStores(t *testing.T) {
	for _, store := range grownStores() {
		checkGraph(t, store)
	}
}

// TestPromise4NoGreaterAncestor states the promise by IsAncestor alone.
func TestPromise4NoGreaterAncestor(t *testing.T) {
	for _, store := range append(grownStores()[8:], crossed()) {
		for a := 1; a <= len(store); a += 3 {
			for b := 1; b <= len(store); b += 2 {
				base, code := impl.BaseOf(store, a, b)
				if code != 0 {
					t.Fatal("BaseOf", a, b, code)
				}
				for n := base; n <= len(store); n++ {
					ofA, _ := impl.IsAncestor(store, n, a)
					ofB, _ := impl.IsAncestor(store, n, b)
					if (ofA && ofB) != (n == base) {
						t.Fatal("BaseOf", store, a, b, base, n)
					}
				}
			}
		}
	}
}

func mergeCommits(store []impl.Commit, a, b int) merge {
	m, keys, code := impl.MergeCommits(store, a, b)
	return merge{m, keys, code}
}

func TestPromise4MergeCommitsExamples(t *testing.T) {
	a1, b1, b2, c1 := entry("a", 1), entry("b", 1), entry("b", 2), entry("c", 1)
	store := []impl.Commit{
		commit([]impl.Entry{a1, b1}),
		commit([]impl.Entry{b1}, 1),
		commit([]impl.Entry{a1, b2}, 1),
		commit([]impl.Entry{a1}, 1),
		commit([]impl.Entry{b2}, 2, 3),
		commit([]impl.Entry{a1, b2, c1}, 3),
		commit(numbered(11), 1),
		commit([]impl.Entry{entry("x", 1), entry("y", 1)}, 1),
	}
	for i, v := range []struct {
		a, b int
		want merge
	}{
		{2, 3, merge{m: []impl.Entry{b2}}},
		{2, 4, merge{}},
		{3, 4, merge{keys: []string{"b"}, code: impl.ErrConflict}},
		{5, 6, merge{m: []impl.Entry{b2, c1}}},
		{2, 6, merge{m: []impl.Entry{b2, c1}}},
		{4, 5, merge{keys: []string{"b"}, code: impl.ErrConflict}},
		{7, 8, merge{code: impl.ErrFull}},
		{1, 7, merge{m: numbered(11)}},
		{5, 5, merge{m: []impl.Entry{b2}}},
		{1, 5, merge{m: []impl.Entry{b2}}},
	} {
		wantMerge(t, fmt.Sprint("MergeCommits ", i), mergeCommits(store, v.a, v.b), v.want)
		wantMerge(t, fmt.Sprint("MergeCommits the other way ", i), mergeCommits(store, v.b, v.a), v.want)
	}
	wantMerge(t, "with the greater base", mergeCommits(crossed(), 4, 5), merge{keys: []string{"a"}, code: impl.ErrConflict})
	wantMerge(t, "after both merged", mergeCommits(crossed(), 6, 7), merge{m: []impl.Entry{entry("a", 2), entry("b", 2), entry("c", 3)}})
}

func TestPromise4MergeCommits(t *testing.T) {
	counts := map[int]int{}
	for _, store := range grownStores() {
		sets, maps := ancestorSets(store), []model{nil}
		for _, c := range store {
			maps = append(maps, modelOf(c.Map))
		}
		for a := 1; a <= len(store); a++ {
			for b := 1; b <= len(store); b++ {
				got := mergeCommits(store, a, b)
				want := mergeOf(maps[greatest(sets[a]&sets[b])], maps[a], maps[b])
				wantMerge(t, fmt.Sprint("MergeCommits ", a, b), got, want)
				counts[got.code]++
			}
		}
	}
	if counts[impl.OK] == 0 || counts[impl.ErrConflict] == 0 || counts[impl.ErrFull] == 0 {
		t.Error("codes", counts)
	}
}

func TestPromise4Codes(t *testing.T) {
	for _, c := range storeCases() {
		if impl.StoreOK(c.store) == c.bad {
			t.Error("StoreOK", c.name, !c.bad)
		}
		none := func(id int) bool { return id < 1 || id > len(c.store) }
		for _, a := range numbersAround(c.store) {
			want := first(c.long, impl.ErrLong, c.bad, impl.ErrBad, none(a), impl.ErrNone)
			if list, code := impl.AncestorsOf(c.store, a); code != want || (code == 0) != (len(list) > 0) {
				t.Error("AncestorsOf", c.name, a, list, code)
			}
			if list, code := impl.FirstLine(c.store, a); code != want || (code == 0) != (len(list) > 0) {
				t.Error("FirstLine", c.name, a, list, code)
			}
			for _, b := range numbersAround(c.store) {
				checkPairCodes(t, c, a, b, first(want != 0, want, none(b), impl.ErrNone))
			}
		}
	}
}

func checkPairCodes(t *testing.T, c storeCase, a, b, want int) {
	t.Helper()
	if up, code := impl.IsAncestor(c.store, a, b); code != want || code != 0 && up {
		t.Error("IsAncestor", c.name, a, b, up, code)
	}
	if base, code := impl.BaseOf(c.store, a, b); code != want || (code == 0) != (base > 0) {
		t.Error("BaseOf", c.name, a, b, base, code)
	}
	if want == 0 {
		sets := ancestorSets(c.store)
		base := c.store[greatest(sets[a]&sets[b])-1]
		wantMerge(t, "MergeCommits "+c.name, mergeCommits(c.store, a, b), merge3(base.Map, c.store[a-1].Map, c.store[b-1].Map))
	} else {
		wantMerge(t, "MergeCommits "+c.name, mergeCommits(c.store, a, b), merge{code: want})
	}
}

func TestPromise4AddCommit(t *testing.T) {
	counts := map[int]int{}
	for _, s := range storeCases() {
		n := len(s.store)
		for _, v := range commitCases() {
			store, id, code := impl.AddCommit(s.store, v.c)
			want := first(s.long, impl.ErrLong, s.bad && n > 0 || !v.validAs(n+1), impl.ErrBad, n == impl.MaxCommits, impl.ErrFull)
			wantStore, wantID := []impl.Commit(nil), 0
			switch want {
			case impl.OK:
				wantStore, wantID = append(slices.Clone(s.store), v.c), n+1
			case impl.ErrFull:
				wantStore = s.store
			}
			if code != want || id != wantID || !sameCommits(store, wantStore) {
				t.Error("AddCommit", s.name, v.name, id, code, "want", wantID, want)
			}
			if code == 0 && !impl.StoreOK(store) {
				t.Error("AddCommit", s.name, v.name, "returns an invalid store")
			}
			counts[code]++
		}
	}
	for _, code := range []int{impl.OK, impl.ErrLong, impl.ErrBad, impl.ErrFull} {
		if counts[code] == 0 {
			t.Error("code", code, "is not tested")
		}
	}
}

func TestPromise4StoreGrowsFromNothing(t *testing.T) {
	for _, want := range grownStores() {
		store := []impl.Commit{}
		for i, c := range want {
			next, id, code := impl.AddCommit(store, c)
			if id != i+1 || code != 0 {
				t.Fatal("AddCommit", i, id, code)
			}
			store = next
		}
		if !sameCommits(store, want) || !impl.SameStore(store, want) {
			t.Fatal("AddCommit built another store", store)
		}
		last := commit(nil, 1)
		if same, id, code := impl.AddCommit(store, last); id != 0 || code != impl.ErrFull || !sameCommits(same, want) {
			t.Fatal("AddCommit to a full store", id, code)
		}
	}
}

func TestPromise4SameStore(t *testing.T) {
	list := storeCases()
	for i, a := range list {
		for j, b := range list {
			want := !a.bad && !b.bad && sameCommits(a.store, b.store)
			if impl.SameStore(a.store, b.store) != want || i == j && want == a.bad {
				t.Error("SameStore", a.name, b.name, !want)
			}
		}
	}
	for i, other := range [][]impl.Commit{
		crossed()[:6],
		append(crossed(), commit(nil, 1)),
		append(crossed()[:6], commit(crossed()[6].Map, 5, 4)),
		append(crossed()[:6], commit(crossed()[6].Map, 4)),
		append(crossed()[:6], commit(crossed()[6].Map, 4, 3)),
		append(crossed()[:6], commit(crossed()[6].Map[:2], 4, 5)),
		append(crossed()[:6], commit([]impl.Entry{entry("a", 2), entry("b", 1), entry("d", 3)}, 4, 5)),
		append(crossed()[:6], commit([]impl.Entry{entry("a", 2), entry("b", 1), entry("c", 4)}, 4, 5)),
		append([]impl.Commit{commit(nil)}, crossed()[1:]...),
	} {
		if !impl.StoreOK(other) || impl.SameStore(crossed(), other) || impl.SameStore(other, crossed()) {
			t.Error("SameStore", i)
		}
	}
	if !impl.SameStore([]impl.Commit{{}}, []impl.Commit{{Parents: []int{}, Map: []impl.Entry{}}}) {
		t.Error("SameStore tells nil from empty")
	}
}

func TestPromise4Limits(t *testing.T) {
	if impl.MaxCommits != 60 || impl.MaxParents != 2 {
		t.Error("limits", impl.MaxCommits, impl.MaxParents)
	}
}
