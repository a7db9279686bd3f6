package tests

import (
	"fmt"
	"slices"
	"testing"

	"loop.example/g00737/impl"
)

func overKeys(list []string) func() { return func() { fill(list, "over") } }

func overBoth(a, b func()) func() { return func() { a(); b() } }

// mergeCalls has every map and all edits in every place, so also the same
// memory in several places.
func (w *arguments) mergeCalls() []call {
	list := []call{}
	for i, base := range w.maps {
		for j, m := range w.maps {
			name := w.mapNames[i] + ", " + w.mapNames[j]
			list = append(list, call{"Changed " + name, func() (string, func()) {
				keys, code := impl.Changed(base, m)
				return fmt.Sprint(keys, code), overKeys(keys)
			}})
			for k, other := range w.maps {
				list = append(list, merge3Calls(name+", "+w.mapNames[k], base, m, other)...)
			}
		}
		for j, a := range w.edits {
			for k, b := range w.edits {
				name := w.mapNames[i] + ", " + w.editNames[j] + ", " + w.editNames[k]
				list = append(list, call{"MergeEdits " + name, func() (string, func()) {
					x, keys, code := impl.MergeEdits(base, a, b)
					return fmt.Sprint(x, keys, code), overBoth(overEntries(x), overKeys(keys))
				}})
			}
		}
	}
	return list
}

func merge3Calls(name string, base, a, b []impl.Entry) []call {
	return []call{{"Merge3 " + name, func() (string, func()) {
		x, keys, code := impl.Merge3(base, a, b)
		return fmt.Sprint(x, keys, code), overBoth(overEntries(x), overKeys(keys))
	}}, {"Rebase " + name, func() (string, func()) {
		list, keys, code := impl.Rebase(base, a, b)
		return fmt.Sprint(list, keys, code), overBoth(overEdits(list), overKeys(keys))
	}}}
}

func TestPromise1MergesAreNew(t *testing.T) {
	m, other := guard(numbered(3), markEntry), guard(numbered(5)[2:], markEntry)
	far := []impl.Entry{entry("k00", 7), entry("k01", 7), entry("k02", 7)}
	farEdits := []impl.Edit{gone("a"), set("k00", 7), set("k01", 7), set("k02", 7)}
	maps := map[string]func() []impl.Entry{
		"Merge3 of one map":    func() []impl.Entry { x, _, _ := impl.Merge3(m, m, m); return x },
		"Merge3 with the base": func() []impl.Entry { x, _, _ := impl.Merge3(nil, m, nil); return x },
		"Merge3 of the other":  func() []impl.Entry { x, _, _ := impl.Merge3(nil, nil, m); return x },
		"Merge3 of equal maps": func() []impl.Entry { x, _, _ := impl.Merge3(other, m, m); return x },
		"MergeEdits, none":     func() []impl.Entry { x, _, _ := impl.MergeEdits(m, nil, nil); return x },
	}
	for name, run := range maps {
		one, two := run(), run()
		fill(one, markEntry)
		if !slices.Equal(two, numbered(3)) || !slices.Equal(m, numbered(3)) || !slices.Equal(other, numbered(5)[2:]) {
			t.Error(name, "shares memory")
		}
	}
	keys := map[string]func() []string{
		"Changed":    func() []string { x, _ := impl.Changed(nil, m); return x },
		"Merge3":     func() []string { _, x, _ := impl.Merge3(nil, m, far); return x },
		"Rebase":     func() []string { _, x, _ := impl.Rebase(nil, m, far); return x },
		"MergeEdits": func() []string { _, x, _ := impl.MergeEdits(nil, numberedEdits(3), farEdits); return x },
	}
	for name, run := range keys {
		one, two := run(), run()
		fill(one, "over")
		if !slices.Equal(two, []string{"k00", "k01", "k02"}) {
			t.Error("the keys of", name, "share memory", two)
		}
	}
	one, _, _ := impl.Rebase(nil, m, nil)
	two, _, _ := impl.Rebase(nil, m, nil)
	fill(one, markEdit)
	if !slices.Equal(two, numberedEdits(3)) {
		t.Error("Rebase shares memory", two)
	}
}

func TestPromise1NilIsEmptyInMerges(t *testing.T) {
	some, maps := numbered(2), [][]impl.Entry{nil, {}}
	for _, none := range maps {
		for _, empty := range maps {
			if keys, code := impl.Changed(none, empty); len(keys) != 0 || code != 0 {
				t.Error("Changed", keys, code)
			}
			wantMerge(t, "Merge3", merge3(some, none, empty), merge{})
			wantMerge(t, "Merge3", merge3(none, some, empty), merge{m: some})
			wantMerge(t, "Merge3", merge3(none, empty, none), merge{})
			if list, keys, code := impl.Rebase(none, some, empty); !slices.Equal(list, numberedEdits(2)) || len(keys) != 0 || code != 0 {
				t.Error("Rebase", list, keys, code)
			}
			for _, edits := range [][]impl.Edit{nil, {}} {
				wantMerge(t, "MergeEdits", mergeEdits(none, edits, nil), merge{})
				wantMerge(t, "MergeEdits", mergeEdits(none, []impl.Edit{}, edits), merge{})
			}
		}
	}
}

// TestPromise1ConflictsDoNotDependOnAnOrder merges often, because a map that
// is ranged over shows its order only by chance.
func TestPromise1ConflictsDoNotDependOnAnOrder(t *testing.T) {
	a, b := numbered(impl.MaxKeys), []impl.Entry{}
	keys := []string{}
	for _, e := range a {
		b = append(b, entry(e.Key, e.Value+1))
		keys = append(keys, e.Key)
	}
	for range 100 {
		wantMerge(t, "Merge3", merge3(nil, a, b), merge{keys: keys, code: impl.ErrConflict})
		wantMerge(t, "Merge3", merge3(a, b, nil), merge{keys: keys, code: impl.ErrConflict})
		wantMerge(t, "Merge3", merge3(nil, a[:6], a[6:]), merge{m: a})
	}
}
