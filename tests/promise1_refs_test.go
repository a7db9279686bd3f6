package tests

import (
	"fmt"
	"slices"
	"testing"

	"loop.example/g00737/impl"
)

var markRef = impl.Ref{Name: "mark", Head: 7, Version: 77}

func overRefs(list []impl.Ref) func() { return func() { fill(list, live("over", 9, 99)) } }

func (w *arguments) addRefs() {
	for _, c := range refsCases() {
		list := guard(c.list, markRef)
		w.refNames = append(w.refNames, c.name)
		w.refs = append(w.refs, list)
		w.refsBefore = append(w.refsBefore, slices.Clone(whole(list)))
	}
}

func (w *arguments) changedRefs() string {
	for i, list := range w.refs {
		if !slices.Equal(whole(list), w.refsBefore[i]) {
			return "references " + w.refNames[i]
		}
	}
	return ""
}

func (w *arguments) refCalls() []call {
	calls := []call{}
	for i, list := range w.refs {
		name := w.refNames[i]
		calls = append(calls, call{"RefsOK " + name, func() (string, func()) {
			return fmt.Sprint(impl.RefsOK(list)), nothing
		}}, call{"LiveRefs " + name, func() (string, func()) {
			x, code := impl.LiveRefs(list)
			return fmt.Sprint(x, code), overKeys(x)
		}})
		for _, c := range refNames(list) {
			calls = append(calls, namedRefCalls(name+", "+brief(c.t), list, c.t)...)
		}
	}
	return calls
}

func namedRefCalls(what string, list []impl.Ref, name string) []call {
	calls := []call{{"LoadRef " + what, func() (string, func()) {
		return fmt.Sprint(impl.LoadRef(list, name)), nothing
	}}, {"DeleteRef " + what, func() (string, func()) {
		x, code := impl.DeleteRef(list, name)
		return fmt.Sprint(x, code), overRefs(x)
	}}}
	for _, head := range heads() {
		calls = append(calls, call{fmt.Sprint("CreateRef ", what, ", ", head), func() (string, func()) {
			x, code := impl.CreateRef(list, name, head)
			return fmt.Sprint(x, code), overRefs(x)
		}})
		for _, v := range versions() {
			calls = append(calls, call{fmt.Sprint("SwapRef ", what, ", ", v, ", ", head), func() (string, func()) {
				x, code := impl.SwapRef(list, name, v, head)
				return fmt.Sprint(x, code), overRefs(x)
			}})
		}
	}
	return calls
}

// TestPromise1RefsAreNew has a call for every code beside which a list is
// returned, unchanged or not.
func TestPromise1RefsAreNew(t *testing.T) {
	some, full, dead := guard(someRefs(), markRef), guard(numberedRefs(impl.MaxRefs), markRef), guard(goneFull(), markRef)
	kept := func() bool {
		return slices.Equal(whole(some), whole(guard(someRefs(), markRef))) && slices.Equal(whole(full), whole(guard(numberedRefs(impl.MaxRefs), markRef))) &&
			slices.Equal(whole(dead), whole(guard(goneFull(), markRef)))
	}
	calls := map[string]func() refs{
		"CreateRef":                        func() refs { return createRef(some, "new", 1) },
		"CreateRef of what is gone":        func() refs { return createRef(some, "old", 1) },
		"CreateRef of what exists":         func() refs { return createRef(some, "main", 1) },
		"CreateRef in a full list":         func() refs { return createRef(full, "new", 1) },
		"CreateRef after all versions":     func() refs { return createRef(some, "gone_top", 1) },
		"DeleteRef":                        func() refs { return deleteRef(some, "main") },
		"DeleteRef of nothing":             func() refs { return deleteRef(some, "new") },
		"DeleteRef of what is gone":        func() refs { return deleteRef(some, "old") },
		"DeleteRef after all versions":     func() refs { return deleteRef(some, "top") },
		"SwapRef":                          func() refs { return swapRef(some, "main", 2, 9) },
		"SwapRef of nothing":               func() refs { return swapRef(some, "new", 2, 9) },
		"SwapRef of another version":       func() refs { return swapRef(some, "main", 1, 9) },
		"SwapRef after all versions":       func() refs { return swapRef(some, "top", impl.MaxValue, 9) },
		"CreateRef that revives when full": func() refs { return createRef(dead, "last", 1) },
	}
	for name, run := range calls {
		one, two := run(), run()
		text := fmt.Sprint(two)
		overRefs(one.list)()
		if len(one.list) == 0 || fmt.Sprint(two) != text || !kept() {
			t.Error(name, "shares memory")
		}
	}
	one, _ := impl.LiveRefs(some)
	two, _ := impl.LiveRefs(some)
	fill(one, "over")
	if !slices.Equal(two, []string{"main", "dev", "top", "near"}) {
		t.Error("LiveRefs shares memory", two)
	}
}

func TestPromise1NilIsEmptyInRefs(t *testing.T) {
	for _, none := range [][]impl.Ref{nil, {}, guard([]impl.Ref{}, markRef)} {
		if !impl.RefsOK(none) {
			t.Error("an empty list is not valid")
		}
		if names, code := impl.LiveRefs(none); len(names) != 0 || code != 0 {
			t.Error("LiveRefs", names, code)
		}
		wantLoad(t, none, "main", 0, 0, impl.ErrName)
		wantRefs(t, "CreateRef", createRef(none, "main", 1), refs{list: []impl.Ref{live("main", 1, 1)}})
		wantRefs(t, "DeleteRef", deleteRef(none, "main"), refs{nil, impl.ErrName})
		wantRefs(t, "SwapRef", swapRef(none, "main", 1, 1), refs{nil, impl.ErrName})
	}
}

// TestPromise1RefsOfEarlierCalls keeps the results of earlier changes: each
// list stays as it was, however the later ones go on.
func TestPromise1RefsOfEarlierCalls(t *testing.T) {
	list := []impl.Ref{live("main", 1, 1)}
	kept, texts := [][]impl.Ref{list}, []string{fmt.Sprint(list)}
	for i := range 40 {
		v := list[0].Version
		for _, x := range []refs{createRef(list, "dev", 1+i), deleteRef(list, "dev"), swapRef(list, "main", v, 1+i)} {
			kept, texts = append(kept, x.list), append(texts, fmt.Sprint(x.list))
			if x.code == 0 {
				list = x.list
			}
		}
	}
	for i := range kept {
		if fmt.Sprint(kept[i]) != texts[i] {
			t.Fatal("list", i, "changed later", kept[i], texts[i])
		}
	}
}
