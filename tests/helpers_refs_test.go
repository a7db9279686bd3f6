package tests

import (
	"fmt"
	"math"
	"slices"
	"strings"

	"loop.example/g00737/impl"
)

func live(name string, head, version int) impl.Ref {
	return impl.Ref{Name: name, Head: head, Version: version}
}

func deleted(name string, version int) impl.Ref {
	return impl.Ref{Name: name, Version: version, Gone: true}
}

// numberedRefs returns n references of different names.
func numberedRefs(n int) []impl.Ref {
	list := []impl.Ref{}
	for i := range n {
		list = append(list, live(fmt.Sprintf("n%02d", i), 1+i%impl.MaxCommits, 1+i))
	}
	return list
}

// someRefs has references of every kind, also next to MaxValue.
func someRefs() []impl.Ref {
	return []impl.Ref{
		live("main", 3, 2),
		deleted("old", 5),
		live("dev", impl.MaxCommits, 1),
		live("top", 1, impl.MaxValue),
		deleted("gone_top", impl.MaxValue),
		deleted("gone_near", impl.MaxValue-1),
		live("near", 2, impl.MaxValue-1),
	}
}

// goneFull has MaxRefs references, of which some are gone.
func goneFull() []impl.Ref {
	return append(someRefs(), deleted("last", 1))
}

type refsCase struct {
	name      string
	list      []impl.Ref
	long, bad bool
}

func refsCases() []refsCase {
	list := []refsCase{
		{name: "nil"},
		{name: "empty", list: []impl.Ref{}},
		{name: "main", list: []impl.Ref{live("main", 1, 1)}},
		{name: "old", list: []impl.Ref{deleted("old", 1)}},
		{name: "some", list: someRefs()},
		{name: "seven", list: numberedRefs(impl.MaxRefs - 1)},
		{name: "full", list: numberedRefs(impl.MaxRefs)},
		{name: "full with some gone", list: goneFull()},
		{name: "names alike", list: []impl.Ref{live("Main", 1, 1), live("main", 2, 2), deleted("MAIN", 3), live("mai", 4, 4), live("main_", 5, 5)}},
		{name: "equal but for the name", list: []impl.Ref{live("z", 7, 7), live("a", 7, 7), live("abcdefghijkl", 7, 7)}},
		{name: "too many", list: numberedRefs(impl.MaxRefs + 1), bad: true},
		{name: "too many with some gone", list: append(goneFull(), deleted("more", 1)), bad: true},
		{name: "MaxList", list: numberedRefs(impl.MaxList), bad: true},
		{name: "beyond MaxList", list: numberedRefs(impl.MaxList + 1), bad: true, long: true},
		{name: "nothing beyond MaxList", list: make([]impl.Ref, impl.MaxList+1), bad: true, long: true},
		{name: "equal twice", list: []impl.Ref{live("main", 1, 1), live("main", 1, 1)}, bad: true},
		{name: "one name twice", list: []impl.Ref{live("main", 1, 1), live("dev", 1, 1), live("main", 2, 2)}, bad: true},
		{name: "live and gone", list: []impl.Ref{live("main", 1, 1), deleted("main", 2)}, bad: true},
		{name: "gone and live", list: []impl.Ref{deleted("old", 1), live("main", 1, 1), live("old", 1, 2)}, bad: true},
		{name: "gone twice", list: []impl.Ref{deleted("old", 1), deleted("old", 2)}, bad: true},
		{name: "last of eight again", list: append(numberedRefs(impl.MaxRefs-1), live("n06", 1, 1)), bad: true},
	}
	for i, r := range badRefs() {
		for _, refs := range [][]impl.Ref{{r}, {r, live("main", 1, 1)}, {live("main", 1, 1), r}, append(numberedRefs(impl.MaxRefs-1), r)} {
			list = append(list, refsCase{name: fmt.Sprintf("bad %d of %d", i, len(refs)), list: refs, bad: true})
		}
	}
	return list
}

func badRefs() []impl.Ref {
	list := []impl.Ref{
		{},
		{Gone: true},
		live("", 1, 1),
		deleted("", 1),
		live("1", 1, 1),
		deleted("1", 1),
		live("b-", 1, 1),
		live("abcdefghijklm", 1, 1),
		live(strings.Repeat("a", impl.MaxText+1), 1, 1),
		live("bad", 0, 1),
	}
	for _, v := range []int{0, -1, impl.MaxValue + 1, math.MaxInt, math.MinInt} {
		list = append(list, live("bad", 1, v), deleted("bad", v))
	}
	for _, head := range []int{1, -1, impl.MaxCommits, impl.MaxCommits + 1, math.MaxInt, math.MinInt} {
		list = append(list, impl.Ref{Name: "bad", Head: head, Version: 1, Gone: true})
		if head < 1 || head > impl.MaxCommits {
			list = append(list, live("bad", head, 1))
		}
	}
	return list
}

// refNames has the names of the references of a list, and names and other
// strings that none has.
func refNames(list []impl.Ref) []textCase {
	names := textCases()
	for _, r := range list[:min(len(list), impl.MaxRefs+1)] {
		if impl.NameOK(r.Name) {
			names = append(names, textCase{t: r.Name, isName: true})
		}
	}
	return names
}

func heads() []int {
	return []int{math.MinInt, -1, 0, 1, 2, impl.MaxCommits, impl.MaxCommits + 1, math.MaxInt}
}

func versions() []int {
	return []int{math.MinInt, -1, 0, 1, 2, 3, 5, impl.MaxValue - 1, impl.MaxValue, impl.MaxValue + 1, math.MaxInt}
}

// refs has the results of a change of references.
type refs struct {
	list []impl.Ref
	code int
}

func createRef(list []impl.Ref, name string, head int) refs {
	x, code := impl.CreateRef(list, name, head)
	return refs{x, code}
}

func deleteRef(list []impl.Ref, name string) refs {
	x, code := impl.DeleteRef(list, name)
	return refs{x, code}
}

func swapRef(list []impl.Ref, name string, version, head int) refs {
	x, code := impl.SwapRef(list, name, version, head)
	return refs{x, code}
}

func sameRefs(a, b refs) bool { return a.code == b.code && slices.Equal(a.list, b.list) }

func badHead(head int) bool { return head < 1 || head > impl.MaxCommits }

// found is what a model knows of a name in a list.
type found struct {
	ref         impl.Ref
	known, live bool
}

func findRef(list []impl.Ref, name string) found {
	for _, r := range list {
		if r.Name == name {
			return found{r, true, !r.Gone}
		}
	}
	return found{}
}

func (f found) full() bool { return f.ref.Version == impl.MaxValue }

// with returns the list with this reference in the place of the one that has
// its name, or at the end.
func with(list []impl.Ref, r impl.Ref) []impl.Ref {
	out := slices.Clone(list)
	for i := range out {
		if out[i].Name == r.Name {
			out[i] = r
			return out
		}
	}
	return append(out, r)
}

func modelCreate(c refsCase, name textCase, head int) refs {
	f := findRef(c.list, name.t)
	code := first(c.long || name.tooLong, impl.ErrLong, c.bad || !name.isName, impl.ErrBad, badHead(head), impl.ErrRange,
		f.live, impl.ErrExists, f.known && f.full() || !f.known && len(c.list) == impl.MaxRefs, impl.ErrFull)
	return modelResult(c.list, code, live(name.t, head, f.ref.Version+1))
}

func modelDelete(c refsCase, name textCase) refs {
	f := findRef(c.list, name.t)
	code := first(c.long || name.tooLong, impl.ErrLong, c.bad, impl.ErrBad, !f.live, impl.ErrName, f.full(), impl.ErrFull)
	return modelResult(c.list, code, deleted(name.t, f.ref.Version+1))
}

func modelSwap(c refsCase, name textCase, version, head int) refs {
	f := findRef(c.list, name.t)
	code := first(c.long || name.tooLong, impl.ErrLong, c.bad, impl.ErrBad, badHead(head), impl.ErrRange,
		!f.live, impl.ErrName, version != f.ref.Version, impl.ErrStale, f.full(), impl.ErrFull)
	return modelResult(c.list, code, live(name.t, head, f.ref.Version+1))
}

// modelResult returns the list beside the codes that leave it unchanged.
func modelResult(list []impl.Ref, code int, next impl.Ref) refs {
	switch code {
	case impl.OK:
		return refs{list: with(list, next)}
	case impl.ErrLong, impl.ErrBad, impl.ErrRange:
		return refs{code: code}
	}
	return refs{list: list, code: code}
}
