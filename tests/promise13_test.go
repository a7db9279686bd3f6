package tests

import (
	"fmt"
	"slices"
	"strings"
	"testing"

	"loop.example/g00737/impl"
)

func wantOpen(t *testing.T, what string, b impl.Base, name string, want opens) {
	t.Helper()
	if got := openSnap(b, name); got != want {
		t.Fatalf("OpenSnap %s of %s: %v; want %v", what, brief(name), got, want)
	}
}

// TestPromise13OpenSnap follows a branch that is created, moved, deleted and
// created again.
func TestPromise13OpenSnap(t *testing.T) {
	b, _ := impl.NewBase(numbered(2))
	first := opens{s: snap("main", 1)}
	none := opens{code: impl.ErrName}
	wantOpen(t, "at the beginning", b, "main", first)
	wantOpen(t, "of what is not there", b, "dev", none)
	for _, x := range []struct {
		o         impl.Op
		main, dev opens
	}{
		{opCreate("dev", 1), first, opens{s: snap("dev", 1)}},
		{opCommit("main", 0, set("a", 1)), opens{s: snap("main", 2)}, opens{s: snap("dev", 1)}},
		{opCommit("dev", 0, set("b", 1)), opens{s: snap("main", 2)}, opens{s: snap("dev", 3)}},
		{opDelete("dev"), opens{s: snap("main", 2)}, none},
		{opMerge("main", 3), opens{s: snap("main", 4)}, none},
		{opCreate("dev", 2), opens{s: snap("main", 4)}, opens{s: snap("dev", 2)}},
		{opMerge("dev", 4), opens{s: snap("main", 4)}, opens{s: snap("dev", 4)}},
		{opDelete("main"), none, opens{s: snap("dev", 4)}},
		{opCreate("main", 1), first, opens{s: snap("dev", 4)}},
	} {
		next := doOp(b, x.o)
		if next.code != 0 || next.r.Code != 0 {
			t.Fatal("DoOp", x.o, next)
		}
		b = next.b
		wantOpen(t, fmt.Sprint("after ", x.o), b, "main", x.main)
		wantOpen(t, fmt.Sprint("after ", x.o), b, "dev", x.dev)
	}
}

func TestPromise13CodesOfOpenSnap(t *testing.T) {
	for _, c := range baseCases() {
		for _, name := range refNames(c.b.Refs) {
			f := findRef(c.b.Refs, name.t)
			want := opens{snap(name.t, f.ref.Head), first(name.tooLong, impl.ErrLong, c.bad, impl.ErrBad, !f.live, impl.ErrName)}
			if want.code != 0 {
				want.s = impl.Snap{}
			}
			wantOpen(t, "in "+c.name, c.b, name.t, want)
			if got := impl.SnapOK(c.b, openSnap(c.b, name.t).s); got != (want.code == 0) {
				t.Fatal("SnapOK of OpenSnap", c.name, brief(name.t), got)
			}
		}
	}
}

func TestPromise13SnapOK(t *testing.T) {
	for _, c := range baseCases() {
		for _, x := range snapsOf(c.b, textCases()) {
			if want := !c.bad && !x.bad; impl.SnapOK(c.b, x.s) != want {
				t.Fatal("SnapOK", c.name, x, want)
			}
		}
	}
	for n := 1; n <= impl.MaxCommits; n++ {
		b := base(line(n))
		for id := 1; id <= n; id++ {
			if !impl.SnapOK(b, snap("any", id)) {
				t.Fatal("SnapOK of a commit", id, "of", n)
			}
		}
		for _, id := range badCommits(n) {
			if impl.SnapOK(b, snap("any", id)) {
				t.Fatal("SnapOK of no commit", id, "of", n)
			}
		}
	}
}

// TestPromise13EveryCommit reads all commits of all repositories: the Name of
// a snapshot does not matter for it, nor whether there is such a branch.
func TestPromise13EveryCommit(t *testing.T) {
	for _, c := range validBases() {
		for i, x := range c.b.Store {
			s := snap(names("main", "old", "never")[i%3], i+1)
			what := fmt.Sprint(c.name, ", commit ", i+1)
			m := modelOf(x.Map)
			for _, key := range keysIn(x.Map) {
				want := gets{value: m.at(key).value, code: first(!m.at(key).found, impl.ErrNone)}
				if got := readSnap(c.b, s, key); got != want {
					t.Fatal("ReadSnap", what, key, got, want)
				}
			}
			got, code := impl.ScanSnap(c.b, s, "", "")
			wantEntries(t, "ScanSnap "+what, got, code, x.Map, 0)
			for j, y := range c.b.Store {
				d, code := impl.DiffSnaps(c.b, s, snap("x", j+1))
				wantEdits(t, fmt.Sprint("DiffSnaps ", what, " to ", j+1), d, code, modelDiff(x.Map, y.Map), 0)
			}
		}
	}
}

func TestPromise13ReadSnapExamples(t *testing.T) {
	b := base(crossed(), crossedRefs()...)
	for _, v := range []struct {
		s    impl.Snap
		key  string
		want gets
	}{
		{snap("main", 1), "a", gets{value: 0}},
		{snap("main", 4), "a", gets{value: 1}},
		{snap("dev", 4), "a", gets{value: 1}},
		{snap("old", 5), "a", gets{value: 2}},
		{snap("never", 7), "c", gets{value: 3}},
		{snap("right", 6), "c", gets{code: impl.ErrNone}},
		{snap("main", 1), "none", gets{code: impl.ErrNone}},
		{snap("main", 1), "A", gets{code: impl.ErrNone}},
		{snap("main", 1), "", gets{code: impl.ErrBad}},
		{snap("main", 1), "1", gets{code: impl.ErrBad}},
		{snap("main", 1), "a ", gets{code: impl.ErrBad}},
		{snap("main", 1), "abcdefghijkl", gets{code: impl.ErrNone}},
		{snap("main", 1), "abcdefghijklm", gets{code: impl.ErrBad}},
		{snap("main", 0), "a", gets{code: impl.ErrBad}},
		{snap("main", -1), "a", gets{code: impl.ErrBad}},
		{snap("main", 8), "a", gets{code: impl.ErrBad}},
		{snap("", 1), "a", gets{code: impl.ErrBad}},
		{snap("", 8), strings.Repeat("a", impl.MaxText), gets{code: impl.ErrBad}},
		{snap("", 8), strings.Repeat("a", impl.MaxText+1), gets{code: impl.ErrLong}},
	} {
		if got := readSnap(b, v.s, v.key); got != v.want {
			t.Error("ReadSnap", v.s, brief(v.key), got, v.want)
		}
	}
}

func TestPromise13ScanSnapExamples(t *testing.T) {
	m := entries(entry("A", 1), entry("_", 2), entry("a", 3), entry("aa", 4), entry("b9", 5))
	b := base([]impl.Commit{commit(numbered(3)), commit(m, 1), commit(nil, 2)}, live("main", 3, 3))
	for _, v := range []struct {
		from, to   string
		first, end int
	}{
		{"", "", 0, 5}, {"a", "", 2, 5}, {"", "a", 0, 2}, {"_", "aa", 1, 3}, {"a", "aa", 2, 3}, {"a", "a\x00", 2, 3}, {"aa", "b", 3, 4},
		{"a", "a", 2, 2}, {"b", "A", 2, 2}, {"z", "", 5, 5}, {"", "0", 0, 0}, {"\xff", "\x00", 5, 5}, {"not a name", "no name either", 5, 5}, {"1", "2", 0, 0},
	} {
		x, code := impl.ScanSnap(b, snap("main", 2), v.from, v.to)
		wantEntries(t, fmt.Sprintf("ScanSnap from %q to %q", v.from, v.to), x, code, m[v.first:v.end], 0)
		x, code = impl.ScanSnap(b, snap("main", 3), v.from, v.to)
		wantEntries(t, fmt.Sprintf("ScanSnap of an empty map from %q to %q", v.from, v.to), x, code, nil, 0)
	}
}

func TestPromise13ScanSnapIsScan(t *testing.T) {
	ends := names("", "\x00", "A", "_", "a", "b", "b\x00", "k", "k00", "k05", "k05a", "k10", "x1", "y", "z", "\xff", strings.Repeat("k", impl.MaxText))
	for _, c := range validBases() {
		for _, id := range commitsAround(c.b) {
			if id < 1 || id > len(c.b.Store) {
				continue
			}
			for _, from := range ends {
				for _, to := range ends {
					want := slices.DeleteFunc(slices.Clone(c.b.Store[id-1].Map), func(e impl.Entry) bool {
						return e.Key < from || to != "" && e.Key >= to
					})
					x, code := impl.ScanSnap(c.b, snap("x", id), from, to)
					wantEntries(t, fmt.Sprint("ScanSnap ", c.name, ", ", id, " from ", brief(from), " to ", brief(to)), x, code, want, 0)
				}
			}
		}
	}
}

func TestPromise13DiffSnapsExamples(t *testing.T) {
	full, between := numbered(impl.MaxKeys), entries()
	for _, e := range full {
		between = append(between, entry(e.Key+"a", e.Value))
	}
	b := base([]impl.Commit{commit(full), commit(between, 1), commit(nil, 2), commit(full, 2)}, live("main", 4, 1))
	for _, v := range []struct{ x, y, n int }{{1, 1, 0}, {1, 2, 24}, {2, 1, 24}, {1, 3, 12}, {3, 1, 12}, {1, 4, 0}, {4, 4, 0}, {4, 2, 24}, {3, 3, 0}} {
		for _, name := range names("main", "dev") {
			d, code := impl.DiffSnaps(b, snap("main", v.x), snap(name, v.y))
			wantEdits(t, fmt.Sprint("DiffSnaps ", v), d, code, modelDiff(b.Store[v.x-1].Map, b.Store[v.y-1].Map), 0)
			if len(d) != v.n {
				t.Error("DiffSnaps", v, d)
			}
		}
	}
	c := base(crossed(), crossedRefs()...)
	d, code := impl.DiffSnaps(c, snap("main", 4), snap("right", 7))
	wantEdits(t, "DiffSnaps to a later commit", d, code, []impl.Edit{set("a", 2), set("c", 3)}, 0)
	d, code = impl.DiffSnaps(c, snap("right", 7), snap("main", 4))
	wantEdits(t, "DiffSnaps to an earlier commit", d, code, []impl.Edit{set("a", 1), gone("c")}, 0)
}

func TestPromise13CodesOfReadSnap(t *testing.T) {
	texts := append(textCases(), textCase{t: "n", isName: true})
	for _, c := range baseCases() {
		for _, x := range snapsOf(c.b, fewTexts()) {
			for _, key := range texts {
				var value cell
				if !c.bad && !x.bad {
					value = modelOf(c.b.Store[x.s.Commit-1].Map).at(key.t)
				}
				want := gets{value.value, first(key.tooLong, impl.ErrLong, c.bad || x.bad || !key.isName, impl.ErrBad, !value.found, impl.ErrNone)}
				if got := readSnap(c.b, x.s, key.t); got != want {
					t.Fatal("ReadSnap", c.name, x, brief(key.t), got, want)
				}
			}
		}
	}
}

func TestPromise13CodesOfScanSnap(t *testing.T) {
	long, longest := strings.Repeat("a", impl.MaxText+1), strings.Repeat("a", impl.MaxText)
	for _, c := range baseCases() {
		for _, x := range snapsOf(c.b, fewTexts()) {
			for _, v := range []struct {
				from, to string
				tooLong  bool
			}{{"", "", false}, {"1", "a b", false}, {longest, longest, false}, {long, "", true}, {"", long, true}, {long, long, true}} {
				want := first(v.tooLong, impl.ErrLong, c.bad || x.bad, impl.ErrBad)
				if m, code := impl.ScanSnap(c.b, x.s, v.from, v.to); code != want || code != 0 && len(m) > 0 {
					t.Fatal("ScanSnap", c.name, x, brief(v.from), brief(v.to), m, code, want)
				}
			}
		}
	}
}

func TestPromise13CodesOfDiffSnaps(t *testing.T) {
	for _, c := range baseCases() {
		list := snapsOf(c.b, fewTexts())
		for i, x := range list {
			for j, y := range list {
				if (i+j)%7 > 0 {
					continue
				}
				want := first(c.bad || x.bad || y.bad, impl.ErrBad)
				if d, code := impl.DiffSnaps(c.b, x.s, y.s); code != want || code != 0 && len(d) > 0 {
					t.Fatal("DiffSnaps", c.name, x, y, d, code, want)
				}
			}
		}
	}
}
