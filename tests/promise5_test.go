package tests

import (
	"fmt"
	"slices"
	"testing"

	"loop.example/g00737/impl"
)

func wantRefs(t *testing.T, what string, got, want refs) {
	t.Helper()
	if !sameRefs(got, want) {
		t.Fatalf("%s: %v; want %v", what, got, want)
	}
}

func wantLoad(t *testing.T, list []impl.Ref, name string, head, version, code int) {
	t.Helper()
	if h, v, c := impl.LoadRef(list, name); h != head || v != version || c != code {
		t.Fatalf("LoadRef %s of %v: %d, %d, code %d; want %d, %d, code %d", brief(name), list, h, v, c, head, version, code)
	}
}

func TestPromise5RefsOK(t *testing.T) {
	for _, c := range refsCases() {
		if impl.RefsOK(c.list) == c.bad {
			t.Error("RefsOK", c.name, !c.bad)
		}
	}
	for _, v := range []int{1, 2, impl.MaxValue - 1, impl.MaxValue} {
		for _, head := range []int{1, 2, impl.MaxCommits - 1, impl.MaxCommits} {
			if !impl.RefsOK([]impl.Ref{live("a", head, v), deleted("b", v)}) {
				t.Error("RefsOK", head, v)
			}
		}
	}
}

func TestPromise5LoadRef(t *testing.T) {
	list := someRefs()
	wantLoad(t, list, "main", 3, 2, 0)
	wantLoad(t, list, "dev", impl.MaxCommits, 1, 0)
	wantLoad(t, list, "top", 1, impl.MaxValue, 0)
	wantLoad(t, list, "old", 0, 0, impl.ErrName)
	wantLoad(t, list, "gone_top", 0, 0, impl.ErrName)
	wantLoad(t, list, "mai", 0, 0, impl.ErrName)
	wantLoad(t, list, "", 0, 0, impl.ErrName)
	wantLoad(t, nil, "main", 0, 0, impl.ErrName)
	for _, c := range refsCases() {
		for _, name := range refNames(c.list) {
			f := findRef(c.list, name.t)
			code := first(c.long || name.tooLong, impl.ErrLong, c.bad, impl.ErrBad, !f.live, impl.ErrName)
			if code != 0 {
				f = found{}
			}
			wantLoad(t, c.list, name.t, f.ref.Head, f.ref.Version, code)
		}
	}
}

func TestPromise5LiveRefs(t *testing.T) {
	for _, c := range refsCases() {
		code := first(c.long, impl.ErrLong, c.bad, impl.ErrBad)
		want := []string{}
		for _, r := range c.list {
			if code == 0 && !r.Gone {
				want = append(want, r.Name)
			}
		}
		if names, got := impl.LiveRefs(c.list); got != code || !slices.Equal(names, want) {
			t.Error("LiveRefs", c.name, names, got, "want", want, code)
		}
	}
	if names, code := impl.LiveRefs(someRefs()); !slices.Equal(names, []string{"main", "dev", "top", "near"}) || code != 0 {
		t.Error("LiveRefs", names, code)
	}
}

func TestPromise5CreateRef(t *testing.T) {
	list, full := someRefs(), numberedRefs(impl.MaxRefs)
	for i, v := range []struct {
		list []impl.Ref
		name string
		head int
		want refs
	}{
		{nil, "main", 1, refs{list: []impl.Ref{live("main", 1, 1)}}},
		{list, "new", impl.MaxCommits, refs{list: append(someRefs(), live("new", impl.MaxCommits, 1))}},
		{list, "old", 4, refs{list: with(list, live("old", 4, 6))}},
		{list, "gone_near", 1, refs{list: with(list, live("gone_near", 1, impl.MaxValue))}},
		{list, "gone_top", 1, refs{list, impl.ErrFull}},
		{list, "main", 4, refs{list, impl.ErrExists}},
		{list, "top", 1, refs{list, impl.ErrExists}},
		{full, "new", 1, refs{full, impl.ErrFull}},
		{full, "n07", 1, refs{full, impl.ErrExists}},
		{goneFull(), "last", 5, refs{list: append(someRefs(), live("last", 5, 2))}},
		{goneFull(), "new", 5, refs{goneFull(), impl.ErrFull}},
		{list, "new", 0, refs{code: impl.ErrRange}},
		{list, "main", impl.MaxCommits + 1, refs{code: impl.ErrRange}},
		{full, "new", -1, refs{code: impl.ErrRange}},
		{list, "9", 0, refs{code: impl.ErrBad}},
		{nil, "", 1, refs{code: impl.ErrBad}},
		{full, "abcdefghijklm", 1, refs{code: impl.ErrBad}},
	} {
		wantRefs(t, fmt.Sprint("CreateRef ", i), createRef(v.list, v.name, v.head), v.want)
	}
}

func TestPromise5DeleteRef(t *testing.T) {
	list := someRefs()
	for i, v := range []struct {
		list []impl.Ref
		name string
		want refs
	}{
		{list, "main", refs{list: with(list, deleted("main", 3))}},
		{list, "near", refs{list: with(list, deleted("near", impl.MaxValue))}},
		{list, "top", refs{list, impl.ErrFull}},
		{list, "old", refs{list, impl.ErrName}},
		{list, "gone_top", refs{list, impl.ErrName}},
		{list, "new", refs{list, impl.ErrName}},
		{list, "9", refs{list, impl.ErrName}},
		{nil, "main", refs{nil, impl.ErrName}},
		{goneFull(), "dev", refs{list: with(goneFull(), deleted("dev", 2))}},
	} {
		wantRefs(t, fmt.Sprint("DeleteRef ", i), deleteRef(v.list, v.name), v.want)
	}
}

func TestPromise5SwapRef(t *testing.T) {
	list := someRefs()
	for i, v := range []struct {
		list          []impl.Ref
		name          string
		version, head int
		want          refs
	}{
		{list, "main", 2, 7, refs{list: with(list, live("main", 7, 3))}},
		{list, "main", 2, 3, refs{list: with(list, live("main", 3, 3))}},
		{list, "near", impl.MaxValue - 1, 1, refs{list: with(list, live("near", 1, impl.MaxValue))}},
		{list, "main", 1, 7, refs{list, impl.ErrStale}},
		{list, "main", 3, 7, refs{list, impl.ErrStale}},
		{list, "main", 0, 7, refs{list, impl.ErrStale}},
		{list, "main", -2, 7, refs{list, impl.ErrStale}},
		{list, "main", 2 + impl.MaxValue, 7, refs{list, impl.ErrStale}},
		{list, "top", impl.MaxValue, 2, refs{list, impl.ErrFull}},
		{list, "top", impl.MaxValue - 1, 2, refs{list, impl.ErrStale}},
		{list, "top", impl.MaxValue + 1, 2, refs{list, impl.ErrStale}},
		{list, "old", 5, 7, refs{list, impl.ErrName}},
		{list, "old", 4, 7, refs{list, impl.ErrName}},
		{list, "gone_top", impl.MaxValue, 7, refs{list, impl.ErrName}},
		{list, "new", 1, 7, refs{list, impl.ErrName}},
		{list, "9", 0, 7, refs{list, impl.ErrName}},
		{nil, "main", 1, 1, refs{nil, impl.ErrName}},
		{list, "main", 2, 0, refs{code: impl.ErrRange}},
		{list, "main", 1, impl.MaxCommits + 1, refs{code: impl.ErrRange}},
		{list, "new", 1, 0, refs{code: impl.ErrRange}},
		{list, "top", impl.MaxValue, -1, refs{code: impl.ErrRange}},
	} {
		wantRefs(t, fmt.Sprint("SwapRef ", i), swapRef(v.list, v.name, v.version, v.head), v.want)
	}
}

// TestPromise5EveryCall compares with a model: every list with every name, head
// and version, so that each code meets those that come after it.
func TestPromise5EveryCall(t *testing.T) {
	counts := map[int]int{}
	check := func(what string, got, want refs) {
		t.Helper()
		wantRefs(t, what, got, want)
		if got.code == 0 && !impl.RefsOK(got.list) {
			t.Fatal(what, "returns an invalid list", got)
		}
		counts[got.code]++
	}
	for _, c := range refsCases() {
		for _, name := range refNames(c.list) {
			what := c.name + ", " + brief(name.t)
			check("DeleteRef "+what, deleteRef(c.list, name.t), modelDelete(c, name))
			for _, head := range heads() {
				check(fmt.Sprint("CreateRef ", what, ", ", head), createRef(c.list, name.t, head), modelCreate(c, name, head))
				for _, v := range versions() {
					check(fmt.Sprint("SwapRef ", what, ", ", v, ", ", head), swapRef(c.list, name.t, v, head), modelSwap(c, name, v, head))
				}
			}
		}
	}
	for _, code := range []int{impl.OK, impl.ErrLong, impl.ErrBad, impl.ErrRange, impl.ErrName, impl.ErrStale, impl.ErrExists, impl.ErrFull} {
		if counts[code] == 0 {
			t.Error("code", code, "is not tested")
		}
	}
}

// TestPromise5OneSwapOfAVersion has two swaps that read the same version.
func TestPromise5OneSwapOfAVersion(t *testing.T) {
	list := []impl.Ref{live("main", 1, 4)}
	one := swapRef(list, "main", 4, 2)
	wantRefs(t, "the first swap", one, refs{list: []impl.Ref{live("main", 2, 5)}})
	two := swapRef(one.list, "main", 4, 3)
	wantRefs(t, "the second swap", two, refs{one.list, impl.ErrStale})
	back := swapRef(one.list, "main", 5, 1)
	wantRefs(t, "the swap back", back, refs{list: []impl.Ref{live("main", 1, 6)}})
	wantRefs(t, "a swap that read the head before", swapRef(back.list, "main", 4, 2), refs{back.list, impl.ErrStale})
}

func TestPromise5DeletedAndRecreated(t *testing.T) {
	made := createRef([]impl.Ref{live("main", 1, 1)}, "dev", 2)
	dead := deleteRef(made.list, "dev")
	wantRefs(t, "the deletion", dead, refs{list: []impl.Ref{live("main", 1, 1), deleted("dev", 2)}})
	wantLoad(t, dead.list, "dev", 0, 0, impl.ErrName)
	wantRefs(t, "a swap of what is gone", swapRef(dead.list, "dev", 2, 3), refs{dead.list, impl.ErrName})
	wantRefs(t, "a deletion of what is gone", deleteRef(dead.list, "dev"), refs{dead.list, impl.ErrName})
	again := createRef(dead.list, "dev", 2)
	wantRefs(t, "the revival", again, refs{list: []impl.Ref{live("main", 1, 1), live("dev", 2, 3)}})
	for _, v := range []int{1, 2} {
		wantRefs(t, "a swap from before", swapRef(again.list, "dev", v, 5), refs{again.list, impl.ErrStale})
	}
	wantRefs(t, "a swap", swapRef(again.list, "dev", 3, 5), refs{list: []impl.Ref{live("main", 1, 1), live("dev", 5, 4)}})
}

// TestPromise5VersionsEnd changes a reference until its Version is MaxValue.
func TestPromise5VersionsEnd(t *testing.T) {
	list := []impl.Ref{live("a", 1, impl.MaxValue-3)}
	for _, x := range []refs{swapRef(list, "a", impl.MaxValue-3, 2), deleteRef(list, "a")} {
		if x.code != 0 || x.list[0].Version != impl.MaxValue-2 {
			t.Fatal("near the end", x)
		}
	}
	list = deleteRef(list, "a").list
	list = createRef(list, "a", 2).list
	wantRefs(t, "before the end", refs{list: list}, refs{list: []impl.Ref{live("a", 2, impl.MaxValue-1)}})
	dead, kept := deleteRef(list, "a"), swapRef(list, "a", impl.MaxValue-1, 3)
	wantRefs(t, "the last deletion", dead, refs{list: []impl.Ref{deleted("a", impl.MaxValue)}})
	wantRefs(t, "no revival", createRef(dead.list, "a", 1), refs{dead.list, impl.ErrFull})
	wantRefs(t, "the last swap", kept, refs{list: []impl.Ref{live("a", 3, impl.MaxValue)}})
	wantRefs(t, "no deletion", deleteRef(kept.list, "a"), refs{kept.list, impl.ErrFull})
	wantRefs(t, "no swap", swapRef(kept.list, "a", impl.MaxValue, 1), refs{kept.list, impl.ErrFull})
}

// TestPromise5GrowsToFull creates references until there are MaxRefs; those
// that are gone keep their places.
func TestPromise5GrowsToFull(t *testing.T) {
	list := []impl.Ref{}
	for i, r := range numberedRefs(impl.MaxRefs) {
		x := createRef(list, r.Name, r.Head)
		wantRefs(t, fmt.Sprint("CreateRef ", i), x, refs{list: append(slices.Clone(list), live(r.Name, r.Head, 1))})
		list = x.list
	}
	for _, r := range numberedRefs(impl.MaxRefs) {
		x := deleteRef(list, r.Name)
		wantRefs(t, "DeleteRef "+r.Name, x, refs{list: with(list, deleted(r.Name, 2))})
		list = x.list
		wantRefs(t, "CreateRef in a full list", createRef(list, "more", 1), refs{list, impl.ErrFull})
	}
	if names, code := impl.LiveRefs(list); len(names) != 0 || code != 0 {
		t.Error("LiveRefs", names, code)
	}
	for _, r := range numberedRefs(impl.MaxRefs) {
		wantRefs(t, "CreateRef "+r.Name, createRef(list, r.Name, 9), refs{list: with(list, live(r.Name, 9, 3))})
	}
}

// history has how often each reference changed, and its state at each version.
type history struct {
	changes map[string]int
	states  map[string]impl.Ref
}

// TestPromise5EverySequence executes all sequences of changes of two names:
// the Version is the number of changes, and no two states have the same one.
func TestPromise5EverySequence(t *testing.T) {
	const depth = 5
	ends := 0
	var run func(left int, list []impl.Ref, h history)
	run = func(left int, list []impl.Ref, h history) {
		if left == 0 {
			ends++
			return
		}
		for _, change := range sequenceChanges(list) {
			run(left-1, change.list, checkChange(t, list, change, h))
		}
	}
	run(depth, nil, history{map[string]int{}, map[string]impl.Ref{}})
	if ends != 12*12*12*12*12 {
		t.Error("sequences", ends)
	}
}

func sequenceChanges(list []impl.Ref) []refs {
	out := []refs{}
	for _, name := range []string{"a", "b"} {
		v := findRef(list, name).ref.Version
		out = append(out, createRef(list, name, 1), createRef(list, name, 2), deleteRef(list, name),
			swapRef(list, name, v, 1), swapRef(list, name, v-1, 2), swapRef(list, name, v+1, 2))
	}
	return out
}

func checkChange(t *testing.T, before []impl.Ref, x refs, h history) history {
	t.Helper()
	if !impl.RefsOK(x.list) || len(x.list) < len(before) {
		t.Fatal("not a list that grew", before, x)
	}
	next := history{map[string]int{}, map[string]impl.Ref{}}
	changed := 0
	for i, r := range x.list {
		next.changes[r.Name] = h.changes[r.Name]
		if i >= len(before) || before[i] != r {
			changed++
			next.changes[r.Name]++
		}
		if r.Version != next.changes[r.Name] || i < len(before) && before[i].Name != r.Name {
			t.Fatal("not the number of changes", before, x, next.changes)
		}
	}
	if changed != 1 && x.code == 0 || changed != 0 && x.code != 0 {
		t.Fatal("changes", changed, before, x)
	}
	for key, r := range h.states {
		next.states[key] = r
	}
	for _, r := range x.list {
		key := fmt.Sprint(r.Name, " ", r.Version)
		if old, known := next.states[key]; known && old != r {
			t.Fatal("two states of one version", old, r)
		}
		next.states[key] = r
	}
	return next
}

func TestPromise5Limits(t *testing.T) {
	if impl.MaxRefs != 8 {
		t.Error("limit", impl.MaxRefs)
	}
}
