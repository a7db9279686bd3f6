package tests

import (
	"fmt"
	"slices"
	"testing"

	"loop.example/g00737/impl"
)

func wantEntries(t *testing.T, what string, got []impl.Entry, code int, want []impl.Entry, wantCode int) {
	t.Helper()
	if code != wantCode || !slices.Equal(got, want) {
		t.Fatalf("%s: %v, code %d; want %v, code %d", what, got, code, want, wantCode)
	}
}

func wantEdits(t *testing.T, what string, got []impl.Edit, code int, want []impl.Edit, wantCode int) {
	t.Helper()
	if code != wantCode || !slices.Equal(got, want) {
		t.Fatalf("%s: %v, code %d; want %v, code %d", what, got, code, want, wantCode)
	}
}

// model is a map as Go has it, which is compared with the program's maps.
type model map[string]int

func modelOf(m []impl.Entry) model {
	out := model{}
	for _, e := range m {
		out[e.Key] = e.Value
	}
	return out
}

func (m model) edited(list []impl.Edit) model {
	for _, e := range list {
		if e.Gone {
			delete(m, e.Key)
		} else {
			m[e.Key] = e.Value
		}
	}
	return m
}

func (m model) entries() []impl.Entry {
	out := []impl.Entry{}
	for key, value := range m {
		out = append(out, entry(key, value))
	}
	slices.SortFunc(out, func(a, b impl.Entry) int {
		if a.Key < b.Key {
			return -1
		}
		return 1
	})
	return out
}

var smallKeys = []string{"A", "_", "a", "aa"}

// smallMaps returns all maps of the small keys with the values -1 and 2.
func smallMaps() [][]impl.Entry {
	list := [][]impl.Entry{{}}
	for _, key := range smallKeys {
		for _, m := range list {
			for _, v := range []int{-1, 2} {
				list = append(list, append(slices.Clone(m), entry(key, v)))
			}
		}
	}
	return list
}

// smallEdits returns all edits of the small keys that are Gone or set to 2 or 0.
func smallEdits() [][]impl.Edit {
	list := [][]impl.Edit{{}}
	for _, key := range smallKeys {
		for _, edits := range list {
			for _, e := range []impl.Edit{gone(key), set(key, 2), set(key, 0)} {
				list = append(list, append(slices.Clone(edits), e))
			}
		}
	}
	return list
}

func TestPromise2ValidMapsAndEdits(t *testing.T) {
	for _, c := range mapCases() {
		if impl.MapOK(c.m) == c.bad {
			t.Error("MapOK", c.name, c.bad)
		}
	}
	for _, c := range editCases() {
		if impl.EditsOK(c.list) == c.bad {
			t.Error("EditsOK", c.name, c.bad)
		}
	}
	for n := range 20 {
		if impl.MapOK(numbered(n)) != (n <= impl.MaxKeys) || impl.EditsOK(numberedEdits(n)) != (n <= impl.MaxEdits) {
			t.Error("length", n)
		}
	}
}

func TestPromise2SameMap(t *testing.T) {
	list := smallMaps()
	for i, a := range list {
		for j, b := range list {
			if impl.SameMap(a, b) != (i == j) {
				t.Fatal("SameMap", a, b)
			}
		}
	}
	if full := numbered(impl.MaxKeys); !impl.SameMap(full, numbered(impl.MaxKeys)) || impl.SameMap(full, full[1:]) {
		t.Error("SameMap of a full map")
	}
	for _, c := range mapCases() {
		if impl.SameMap(c.m, slices.Clone(c.m)) == c.bad || c.bad && (impl.SameMap(c.m, nil) || impl.SameMap(nil, c.m)) {
			t.Error("SameMap", c.name)
		}
	}
}

func TestPromise2PutThenGet(t *testing.T) {
	for _, m := range smallMaps() {
		for _, key := range append([]string{"B", "z"}, smallKeys...) {
			for _, v := range []int{-1, 0, impl.MaxValue, -impl.MaxValue} {
				x, code := impl.Put(m, key, v)
				wantEntries(t, fmt.Sprint("Put ", m, key, v), x, code, modelOf(m).edited([]impl.Edit{set(key, v)}).entries(), 0)
				if got, code := impl.Get(x, key); got != v || code != 0 {
					t.Fatal("Get", x, key, got, code)
				}
			}
		}
	}
}

func TestPromise2GetAndRemove(t *testing.T) {
	for _, m := range smallMaps() {
		for _, key := range append([]string{"B", "z"}, smallKeys...) {
			value, found := modelOf(m)[key]
			wantCode := impl.ErrNone
			if found {
				wantCode = impl.OK
			}
			if got, code := impl.Get(m, key); got != value || code != wantCode {
				t.Fatal("Get", m, key, got, code)
			}
			x, code := impl.Remove(m, key)
			wantEntries(t, fmt.Sprint("Remove ", m, key), x, code, modelOf(m).edited([]impl.Edit{gone(key)}).entries(), wantCode)
			if _, code := impl.Get(x, key); code != impl.ErrNone {
				t.Fatal("Get of a removed key", m, key, code)
			}
		}
	}
	x, code := impl.Remove(nil, "a")
	wantEntries(t, "Remove from an empty map", x, code, nil, impl.ErrNone)
}

func TestPromise2FullMap(t *testing.T) {
	full := numbered(impl.MaxKeys)
	for _, e := range full {
		x, code := impl.Put(full, e.Key, 50)
		wantEntries(t, "Put into a full map", x, code, modelOf(full).edited([]impl.Edit{set(e.Key, 50)}).entries(), 0)
		x, code = impl.Remove(full, e.Key)
		wantEntries(t, "Remove from a full map", x, code, modelOf(full).edited([]impl.Edit{gone(e.Key)}).entries(), 0)
		if v, code := impl.Get(full, e.Key); v != e.Value || code != 0 {
			t.Error("Get", e, v, code)
		}
	}
	for _, key := range []string{"a", "k050", "z"} {
		x, code := impl.Put(full, key, 1)
		wantEntries(t, "Put "+key, x, code, nil, impl.ErrFull)
		x, code = impl.Put(full[1:], key, 1)
		wantEntries(t, "Put "+key, x, code, modelOf(full[1:]).edited([]impl.Edit{set(key, 1)}).entries(), 0)
		x, code = impl.Remove(full, key)
		wantEntries(t, "Remove "+key, x, code, full, impl.ErrNone)
	}
}

func TestPromise2ApplyEdits(t *testing.T) {
	edits := smallEdits()
	for _, m := range smallMaps() {
		for _, list := range edits {
			x, code := impl.ApplyEdits(m, list)
			wantEntries(t, fmt.Sprint("ApplyEdits ", m, list), x, code, modelOf(m).edited(list).entries(), 0)
		}
	}
}

// TestPromise2ApplyEditsToManyKeys counts the entries of the result alone:
// neither those in between nor deletions of keys that do not exist.
func TestPromise2ApplyEditsToManyKeys(t *testing.T) {
	lists := [][]impl.Edit{
		{gone("a"), gone("z")},
		{set("a", 1)},
		{set("a", 1), gone("k00")},
		{set("a", 1), gone("zz")},
		{gone("a"), set("z", 1)},
		{gone("k11"), set("z", 1)},
		{set("a", 1), set("b", 2), set("c", 3), gone("k00"), gone("k05"), gone("k11")},
		{set("a", 1), set("b", 2), set("c", 3), gone("k00"), gone("k05"), gone("k12")},
		{set("a", 1), set("b", 2), set("c", 3), set("d", 4), set("e", 5), set("f", 6)},
		{set("k00", 9), set("k03", 9), set("k11", 9), set("z", 9)},
		{set("k00", 9), set("k03", 9), set("k11", 9), gone("z")},
		numberedEdits(impl.MaxEdits),
	}
	for n := range impl.MaxKeys + 1 {
		m := numbered(impl.MaxKeys)[:n]
		for _, list := range lists {
			want, wantCode := modelOf(m).edited(list).entries(), impl.OK
			if len(want) > impl.MaxKeys {
				want, wantCode = nil, impl.ErrFull
			}
			x, code := impl.ApplyEdits(m, list)
			wantEntries(t, fmt.Sprint("ApplyEdits to ", n, list), x, code, want, wantCode)
		}
	}
}

func TestPromise2Scan(t *testing.T) {
	m := []impl.Entry{entry("A", 1), entry("_", 2), entry("a", 3), entry("aa", 4), entry("b9", 5), entry("z", 6)}
	ends := []string{"", "\x00", "0", "A", "A\x00", "B", "_", "a", "a0", "aa", "aaa", "b", "b9", "b9x", "z", "z\x00", "zz", "{", "\xff", "a long string, which is no name"}
	for _, m := range [][]impl.Entry{m, nil, m[2:3], numbered(impl.MaxKeys)} {
		for _, from := range ends {
			for _, to := range ends {
				want := []impl.Entry{}
				for _, e := range m {
					if e.Key >= from && (to == "" || e.Key < to) {
						want = append(want, e)
					}
				}
				x, code := impl.Scan(m, from, to)
				wantEntries(t, fmt.Sprintf("Scan %v from %q to %q", m, from, to), x, code, want, 0)
			}
		}
	}
}

func TestPromise2ScanExamples(t *testing.T) {
	m := []impl.Entry{entry("a", 1), entry("b", 2), entry("c", 3)}
	for _, v := range []struct {
		from, to   string
		first, end int
	}{{"", "", 0, 3}, {"b", "", 1, 3}, {"", "b", 0, 1}, {"a", "c", 0, 2}, {"b", "b", 1, 1}, {"c", "a", 1, 1}, {"d", "", 3, 3}, {"", "A", 0, 0}} {
		x, code := impl.Scan(m, v.from, v.to)
		wantEntries(t, "Scan from "+v.from+" to "+v.to, x, code, m[v.first:v.end], 0)
	}
}

func TestPromise2DiffTransforms(t *testing.T) {
	list := smallMaps()
	for _, a := range list {
		for _, b := range list {
			d, code := impl.Diff(a, b)
			if code != 0 || !impl.EditsOK(d) {
				t.Fatal("Diff", a, b, d, code)
			}
			x, code := impl.ApplyEdits(a, d)
			wantEntries(t, fmt.Sprint("ApplyEdits of Diff ", a, b), x, code, b, 0)
			wantEdits(t, fmt.Sprint("Diff ", a, b), d, 0, modelDiff(a, b), 0)
		}
	}
}

// modelDiff finds the changes key by key.
func modelDiff(a, b []impl.Entry) []impl.Edit {
	from, to := modelOf(a), modelOf(b)
	keys := []string{}
	for key := range from {
		keys = append(keys, key)
	}
	for key := range to {
		keys = append(keys, key)
	}
	slices.Sort(keys)
	out := []impl.Edit{}
	for _, key := range slices.Compact(keys) {
		old, had := from[key]
		value, has := to[key]
		if !has {
			out = append(out, gone(key))
		} else if !had || old != value {
			out = append(out, set(key, value))
		}
	}
	return out
}

func TestPromise2DiffOfManyKeys(t *testing.T) {
	full := numbered(impl.MaxKeys)
	other, between := []impl.Entry{}, []impl.Entry{}
	for _, e := range full {
		other = append(other, entry(e.Key, -e.Value))
		between = append(between, entry(e.Key+"a", e.Value))
	}
	for _, v := range []struct {
		a, b []impl.Entry
		n    int
	}{{full, full, 0}, {full, nil, 12}, {nil, full, 12}, {full, other, 11}, {full, between, 24}, {between, full, 24}, {full[:6], full[6:], 12}, {nil, nil, 0}} {
		d, code := impl.Diff(v.a, v.b)
		wantEdits(t, "Diff", d, code, modelDiff(v.a, v.b), 0)
		if len(d) != v.n {
			t.Error("Diff", v.n, d)
		}
	}
}

// first returns the code of the first condition that holds.
func first(conditions ...any) int {
	for i := 0; i < len(conditions); i += 2 {
		if conditions[i].(bool) {
			return conditions[i+1].(int)
		}
	}
	return impl.OK
}

func TestPromise2CodesOfKeys(t *testing.T) {
	texts := textCases()
	for _, m := range mapCases() {
		byKey := modelOf(m.m)
		for _, key := range texts {
			long, bad := m.long || key.tooLong, m.bad || !key.isName
			value, found := byKey[key.t]
			code := first(long, impl.ErrLong, bad, impl.ErrBad, !found, impl.ErrNone)
			if code != 0 {
				value = 0
			}
			if v, got := impl.Get(m.m, key.t); got != code || v != value {
				t.Fatal("Get", m.name, brief(key.t), v, got)
			}
			x, got := impl.Remove(m.m, key.t)
			if got != code || code == impl.ErrNone && !slices.Equal(x, m.m) || code != 0 && code != impl.ErrNone && len(x) != 0 {
				t.Fatal("Remove", m.name, brief(key.t), x, got)
			}
			for _, v := range values() {
				off := v < -impl.MaxValue || v > impl.MaxValue
				code := first(long, impl.ErrLong, bad, impl.ErrBad, off, impl.ErrRange, !found && len(m.m) == impl.MaxKeys, impl.ErrFull)
				if x, got := impl.Put(m.m, key.t, v); got != code || code != 0 && len(x) != 0 {
					t.Fatal("Put", m.name, brief(key.t), v, x, got)
				}
			}
		}
	}
}

func TestPromise2CodesOfLists(t *testing.T) {
	maps, edits, texts := mapCases(), editCases(), textCases()
	for _, m := range maps {
		for _, c := range edits {
			size := len(modelOf(m.m).edited(c.list))
			code := first(m.long || c.long, impl.ErrLong, m.bad || c.bad, impl.ErrBad, size > impl.MaxKeys, impl.ErrFull)
			if x, got := impl.ApplyEdits(m.m, c.list); got != code || code != 0 && len(x) != 0 {
				t.Fatal("ApplyEdits", m.name, c.name, x, got)
			}
		}
		for _, other := range maps {
			code := first(m.long || other.long, impl.ErrLong, m.bad || other.bad, impl.ErrBad)
			if d, got := impl.Diff(m.m, other.m); got != code || code != 0 && len(d) != 0 {
				t.Fatal("Diff", m.name, other.name, d, got)
			}
		}
		for _, from := range texts {
			for _, to := range texts {
				code := first(m.long || from.tooLong || to.tooLong, impl.ErrLong, m.bad, impl.ErrBad)
				if x, got := impl.Scan(m.m, from.t, to.t); got != code || code != 0 && len(x) != 0 {
					t.Fatal("Scan", m.name, brief(from.t), brief(to.t), x, got)
				}
			}
		}
	}
}
