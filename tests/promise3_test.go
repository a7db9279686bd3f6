package tests

import (
	"fmt"
	"slices"
	"testing"

	"loop.example/g00737/impl"
)

// merge has the results of a merge.
type merge struct {
	m    []impl.Entry
	keys []string
	code int
}

func merge3(base, a, b []impl.Entry) merge {
	m, keys, code := impl.Merge3(base, a, b)
	return merge{m, keys, code}
}

func mergeEdits(base []impl.Entry, a, b []impl.Edit) merge {
	m, keys, code := impl.MergeEdits(base, a, b)
	return merge{m, keys, code}
}

func sameMerge(a, b merge) bool {
	return a.code == b.code && slices.Equal(a.keys, b.keys) && slices.Equal(a.m, b.m)
}

func wantMerge(t *testing.T, what string, got, want merge) {
	t.Helper()
	if !sameMerge(got, want) {
		t.Fatalf("%s: %v; want %v", what, got, want)
	}
}

type cell struct {
	value int
	found bool
}

func (m model) at(key string) cell {
	v, found := m[key]
	return cell{v, found}
}

// mergeOf merges cell by cell, without any edits.
func mergeOf(base, a, b model) merge {
	keys := []string{}
	for _, m := range []model{base, a, b} {
		for key := range m {
			keys = append(keys, key)
		}
	}
	slices.Sort(keys)
	out := merge{}
	for _, key := range slices.Compact(keys) {
		was, x, y := base.at(key), a.at(key), b.at(key)
		if x != y && x != was && y != was {
			out.keys = append(out.keys, key)
			continue
		}
		if x == was {
			x = y
		}
		if x.found {
			out.m = append(out.m, entry(key, x.value))
		}
	}
	if len(out.keys) > 0 {
		return merge{keys: out.keys, code: impl.ErrConflict}
	}
	if len(out.m) > impl.MaxKeys {
		return merge{code: impl.ErrFull}
	}
	return out
}

// threeKeys returns all maps of three keys with the values 0, 1 and 2: as many
// as two sides and their base need to differ, and 0, which a deletion has too.
func threeKeys() [][]impl.Entry {
	list := [][]impl.Entry{{}}
	for _, key := range []string{"A", "a", "aa"} {
		for _, m := range list {
			for v := range 3 {
				list = append(list, append(slices.Clone(m), entry(key, v)))
			}
		}
	}
	return list
}

// forTriples passes all triples of the maps of three keys.
func forTriples(run func(base, a, b []impl.Entry)) {
	list := threeKeys()
	for _, base := range list {
		for _, a := range list {
			for _, b := range list {
				run(base, a, b)
			}
		}
	}
}

func TestPromise3Examples(t *testing.T) {
	a1, a2, b1, b2 := entry("a", 1), entry("a", 2), entry("b", 1), entry("b", 2)
	conflict := func(keys ...string) merge { return merge{keys: keys, code: impl.ErrConflict} }
	maps := func(list ...impl.Entry) []impl.Entry { return list }
	for i, v := range []struct {
		base, a, b []impl.Entry
		want       merge
	}{
		{maps(a1, b1), maps(a2, b1), maps(a1, b2), merge{m: maps(a2, b2)}},
		{maps(a1, b1), maps(a2, b2), maps(a2, b2), merge{m: maps(a2, b2)}},
		{maps(a1, b1), maps(a2, b2), maps(a2, b1), merge{m: maps(a2, b2)}},
		{maps(a1, b1), maps(b1), maps(b1), merge{m: maps(b1)}},
		{maps(a1, b1), maps(b1), maps(a1), merge{}},
		{maps(a1), maps(), maps(a2), conflict("a")},
		{maps(a1, b1), maps(), maps(a2, b2), conflict("a", "b")},
		{maps(a1, b1), maps(a2, b1), maps(b2), conflict("a")},
		{maps(), maps(a1), maps(a1), merge{m: maps(a1)}},
		{maps(), maps(a1), maps(a2), conflict("a")},
		{maps(), maps(a1, b2), maps(a2, b1), conflict("a", "b")},
		{maps(), maps(entry("a", 0)), maps(), merge{m: maps(entry("a", 0))}},
		{maps(a1), maps(entry("a", 0)), maps(), conflict("a")},
		{maps(b1), maps(a1), maps(b1, entry("c", 3)), merge{m: maps(a1, entry("c", 3))}},
	} {
		wantMerge(t, fmt.Sprint("Merge3 ", i), merge3(v.base, v.a, v.b), v.want)
		wantMerge(t, fmt.Sprint("Merge3 the other way ", i), merge3(v.base, v.b, v.a), v.want)
	}
}

func TestPromise3EveryMerge(t *testing.T) {
	list := threeKeys()
	models := []model{}
	for _, m := range list {
		models = append(models, modelOf(m))
	}
	for i, base := range list {
		for j, a := range list {
			for k, b := range list {
				if got, want := merge3(base, a, b), mergeOf(models[i], models[j], models[k]); !sameMerge(got, want) {
					t.Fatal("Merge3", base, a, b, got, want)
				}
			}
		}
	}
}

func TestPromise3ContainsEveryChange(t *testing.T) {
	forTriples(func(base, a, b []impl.Entry) {
		m, _, code := impl.Merge3(base, a, b)
		if code != 0 {
			return
		}
		left := modelOf(m)
		for _, e := range append(modelDiff(base, a), modelDiff(base, b)...) {
			if left.at(e.Key) != (cell{e.Value, !e.Gone}) {
				t.Fatal("lost", e, "in Merge3", base, a, b, m)
			}
		}
	})
}

func TestPromise3Symmetric(t *testing.T) {
	forTriples(func(base, a, b []impl.Entry) {
		if one, two := merge3(base, a, b), merge3(base, b, a); !sameMerge(one, two) {
			t.Fatal("Merge3", base, a, b, one, two)
		}
	})
}

func TestPromise3WithItsBaseOrItself(t *testing.T) {
	list := append(threeKeys(), numbered(impl.MaxKeys), numbered(impl.MaxKeys - 1)[1:])
	for _, base := range list {
		for _, m := range list {
			want := merge{m: m}
			wantMerge(t, "Merge3 with the base", merge3(base, m, base), want)
			wantMerge(t, "Merge3 of the base", merge3(base, base, m), want)
			wantMerge(t, "Merge3 with itself", merge3(base, m, m), want)
		}
	}
}

func TestPromise3ManyKeys(t *testing.T) {
	full, other := numbered(impl.MaxKeys), []impl.Entry{}
	for _, e := range full {
		other = append(other, entry("m"+e.Key[1:], e.Value))
	}
	counts := map[int]int{}
	for n := range impl.MaxKeys + 1 {
		for i := range impl.MaxKeys + 1 {
			for _, base := range [][]impl.Entry{nil, full[:6], full[6:], other[:3]} {
				got := merge3(base, full[:n], other[:i])
				wantMerge(t, fmt.Sprint("Merge3 ", base, n, i), got, mergeOf(modelOf(base), modelOf(full[:n]), modelOf(other[:i])))
				counts[got.code]++
			}
		}
	}
	if counts[impl.OK] == 0 || counts[impl.ErrFull] == 0 {
		t.Error("codes", counts)
	}
	wantMerge(t, "twelve entries", merge3(nil, full[:5], other[:7]), merge{m: append(full[:5:5], other[:7]...)})
	wantMerge(t, "thirteen entries", merge3(nil, full[:6], other[:7]), merge{code: impl.ErrFull})
	wantMerge(t, "a full map in which one entry is replaced", merge3(full, full, append(full[1:12:12], other[0])), merge{m: append(full[1:12:12], other[0])})
}

// TestPromise3ConflictBeforeFull has a conflict in a result that would have
// too many entries as well.
func TestPromise3ConflictBeforeFull(t *testing.T) {
	a := append(numbered(11), entry("z", 1))
	b := []impl.Entry{entry("k", 1), entry("l", 1), entry("z", 2)}
	want := merge{keys: []string{"z"}, code: impl.ErrConflict}
	wantMerge(t, "Merge3", merge3(nil, a, b), want)
	wantMerge(t, "MergeEdits", mergeEdits(numbered(12), []impl.Edit{set("y", 1), set("z", 1)}, []impl.Edit{set("z", 2)}), want)
	if list, keys, code := impl.Rebase(nil, a, b); len(list) != 0 || !slices.Equal(keys, want.keys) || code != want.code {
		t.Error("Rebase", list, keys, code)
	}
}

func TestPromise3MergeEditsExamples(t *testing.T) {
	base := []impl.Entry{entry("a", 1), entry("b", 2)}
	edits := func(list ...impl.Edit) []impl.Edit { return list }
	conflict := merge{keys: []string{"a"}, code: impl.ErrConflict}
	for i, v := range []struct {
		a, b []impl.Edit
		want merge
	}{
		{edits(set("a", 1)), edits(gone("a")), merge{m: base[1:]}},
		{edits(set("a", 1)), edits(set("a", 5)), merge{m: []impl.Entry{entry("a", 5), entry("b", 2)}}},
		{edits(set("a", 1)), edits(set("a", 1)), merge{m: base}},
		{edits(set("a", 5)), edits(set("a", 5)), merge{m: []impl.Entry{entry("a", 5), entry("b", 2)}}},
		{edits(gone("a")), edits(gone("a")), merge{m: base[1:]}},
		{edits(gone("a"), gone("b")), edits(gone("b")), merge{}},
		{edits(set("a", 5)), edits(gone("a")), conflict},
		{edits(set("a", 0)), edits(gone("a")), conflict},
		{edits(set("a", 5), set("b", 3)), edits(set("a", 6), set("b", 3)), conflict},
		{edits(gone("c")), edits(set("c", 3)), merge{m: []impl.Entry{entry("a", 1), entry("b", 2), entry("c", 3)}}},
		{edits(gone("c")), edits(gone("c")), merge{m: base}},
	} {
		wantMerge(t, fmt.Sprint("MergeEdits ", i), mergeEdits(base, v.a, v.b), v.want)
		wantMerge(t, fmt.Sprint("MergeEdits the other way ", i), mergeEdits(base, v.b, v.a), v.want)
	}
}

func TestPromise3EveryMergeOfEdits(t *testing.T) {
	keys := []string{"A", "a", "aa"}
	bases, edits := [][]impl.Entry{{}}, [][]impl.Edit{{}}
	for _, key := range keys {
		for _, m := range bases {
			bases = append(bases, append(slices.Clone(m), entry(key, 0)), append(slices.Clone(m), entry(key, 1)))
		}
		for _, list := range edits {
			for _, e := range []impl.Edit{gone(key), set(key, 0), set(key, 2)} {
				edits = append(edits, append(slices.Clone(list), e))
			}
		}
	}
	for _, base := range bases {
		sides := []model{}
		for _, list := range edits {
			sides = append(sides, modelOf(base).edited(list))
		}
		for i, a := range edits {
			for j, b := range edits {
				if got, want := mergeEdits(base, a, b), mergeOf(modelOf(base), sides[i], sides[j]); !sameMerge(got, want) {
					t.Fatal("MergeEdits", base, a, b, got, want)
				}
			}
		}
	}
}

// TestPromise3EditsWithManyKeys has sides of up to 18 entries, which no map
// may have: only the result is limited.
func TestPromise3EditsWithManyKeys(t *testing.T) {
	edits := [][]impl.Edit{
		nil,
		{set("a", 1)},
		{set("z", 1)},
		{set("a", 1), gone("k00")},
		{set("a", 1), set("b", 1), set("c", 1), set("d", 1), set("e", 1), set("f", 1)},
		{set("e", 1), set("f", 1), set("t", 1), set("u", 1), set("v", 1), set("z", 1)},
		{gone("k00"), gone("k01"), gone("k02"), gone("k03"), gone("k04"), gone("k05")},
		{gone("k06"), gone("k07"), gone("k08"), gone("k09"), gone("k10"), gone("k11")},
		{gone("k00"), gone("k11"), set("z", 1)},
		{gone("k00"), gone("k11"), set("z", 2)},
		{set("k00", 5), set("k11", 5), set("z", 2)},
		{set("k00", 0), set("k11", 11), gone("z")},
	}
	counts := map[int]int{}
	for n := range impl.MaxKeys + 1 {
		base := numbered(n)
		for _, a := range edits {
			for _, b := range edits {
				got := mergeEdits(base, a, b)
				want := mergeOf(modelOf(base), modelOf(base).edited(a), modelOf(base).edited(b))
				wantMerge(t, fmt.Sprint("MergeEdits ", n, a, b), got, want)
				counts[got.code]++
			}
		}
	}
	if counts[impl.OK] == 0 || counts[impl.ErrConflict] == 0 || counts[impl.ErrFull] == 0 {
		t.Error("codes", counts)
	}
	full := numbered(impl.MaxKeys)
	added := []impl.Entry{entry("a", 1), entry("b", 1), entry("c", 1), entry("d", 1), entry("e", 1), entry("f", 1)}
	wantMerge(t, "18 entries, of which 6 go", mergeEdits(full, edits[4], edits[6]), merge{m: append(added, full[6:]...)})
	wantMerge(t, "18 entries, and nothing goes", mergeEdits(full, edits[4], edits[4]), merge{code: impl.ErrFull})
	wantMerge(t, "13 entries", mergeEdits(full, edits[1], nil), merge{code: impl.ErrFull})
}

func TestPromise3Changed(t *testing.T) {
	list := append(threeKeys(), numbered(impl.MaxKeys), numbered(impl.MaxKeys - 1)[1:], between())
	for _, base := range list {
		for _, m := range list {
			want := []string{}
			for _, e := range modelDiff(base, m) {
				want = append(want, e.Key)
			}
			if keys, code := impl.Changed(base, m); code != 0 || !slices.Equal(keys, want) {
				t.Fatal("Changed", base, m, keys, code)
			}
		}
	}
	if keys, code := impl.Changed(numbered(impl.MaxKeys), between()); len(keys) != 24 || keys[0] != "k00" || keys[1] != "k00a" || code != 0 {
		t.Error("Changed", keys, code)
	}
}

// between returns a full map whose keys lie between those of numbered.
func between() []impl.Entry {
	out := []impl.Entry{}
	for _, e := range numbered(impl.MaxKeys) {
		out = append(out, entry(e.Key+"a", e.Value))
	}
	return out
}

func TestPromise3Rebase(t *testing.T) {
	forTriples(func(base, m, head []impl.Entry) {
		whole := merge3(base, m, head)
		list, keys, code := impl.Rebase(base, m, head)
		want := []impl.Edit{}
		if whole.code == 0 {
			want = modelDiff(head, whole.m)
		}
		if code != whole.code || !slices.Equal(keys, whole.keys) || !slices.Equal(list, want) {
			t.Fatal("Rebase", base, m, head, list, keys, code)
		}
	})
	full := numbered(impl.MaxKeys)
	if list, keys, code := impl.Rebase(full, between(), full); !slices.Equal(list, modelDiff(full, between())) || len(list) != 24 || len(keys) != 0 || code != 0 {
		t.Error("Rebase with many edits", list, keys, code)
	}
	if list, keys, code := impl.Rebase(nil, between(), full); len(list) != 0 || len(keys) != 0 || code != impl.ErrFull {
		t.Error("Rebase with a full result", list, keys, code)
	}
}

func TestPromise3CodesOfMaps(t *testing.T) {
	maps := mapCases()
	for _, base := range maps {
		for _, a := range maps {
			code := first(base.long || a.long, impl.ErrLong, base.bad || a.bad, impl.ErrBad)
			if keys, got := impl.Changed(base.m, a.m); got != code || code != 0 && len(keys) != 0 {
				t.Fatal("Changed", base.name, a.name, keys, got)
			}
			for _, b := range maps {
				want := merge{code: first(base.long || a.long || b.long, impl.ErrLong, base.bad || a.bad || b.bad, impl.ErrBad)}
				if want.code == 0 {
					want = mergeOf(modelOf(base.m), modelOf(a.m), modelOf(b.m))
				}
				if got := merge3(base.m, a.m, b.m); !sameMerge(got, want) {
					t.Fatal("Merge3", base.name, a.name, b.name, got, want)
				}
				list, keys, code := impl.Rebase(base.m, a.m, b.m)
				if code != want.code || !slices.Equal(keys, want.keys) || code != 0 && len(list) != 0 {
					t.Fatal("Rebase", base.name, a.name, b.name, list, keys, code)
				}
			}
		}
	}
}

func TestPromise3CodesOfEdits(t *testing.T) {
	edits := editCases()
	for _, base := range mapCases() {
		for _, a := range edits {
			for _, b := range edits {
				want := merge{code: first(base.long || a.long || b.long, impl.ErrLong, base.bad || a.bad || b.bad, impl.ErrBad)}
				if want.code == 0 {
					want = mergeOf(modelOf(base.m), modelOf(base.m).edited(a.list), modelOf(base.m).edited(b.list))
				}
				if got := mergeEdits(base.m, a.list, b.list); !sameMerge(got, want) {
					t.Fatal("MergeEdits", base.name, a.name, b.name, got, want)
				}
			}
		}
	}
}
