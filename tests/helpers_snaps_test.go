package tests

import (
	"fmt"
	"math"
	"slices"
	"strings"

	"loop.example/g00737/impl"
)

func snap(name string, id int) impl.Snap { return impl.Snap{Name: name, Commit: id} }

// commitsAround has commit numbers at and beyond both ends of a repository.
func commitsAround(b impl.Base) []int { return numbersAround(b.Store) }

type snapCase struct {
	s   impl.Snap
	bad bool
}

func (c snapCase) String() string { return fmt.Sprint(brief(c.s.Name), " at ", c.s.Commit) }

// snapsOf has snapshots of commits that exist or not, whether there is a
// branch with the name or not.
func snapsOf(b impl.Base, texts []textCase) []snapCase {
	list := []snapCase{}
	for _, c := range texts {
		for _, id := range commitsAround(b) {
			list = append(list, snapCase{snap(c.t, id), !c.isName || id < 1 || id > len(b.Store)})
		}
	}
	return list
}

func fewTexts() []textCase {
	return []textCase{
		{t: "main", isName: true}, {t: "old", isName: true}, {t: "never", isName: true}, {t: "abcdefghijkl", isName: true},
		{t: ""}, {t: "1"}, {t: "abcdefghijklm"}, {t: strings.Repeat("a", impl.MaxText+1), tooLong: true},
	}
}

// opens has the results of OpenSnap.
type opens struct {
	s    impl.Snap
	code int
}

func openSnap(b impl.Base, name string) opens {
	s, code := impl.OpenSnap(b, name)
	return opens{s, code}
}

// gets has the results of a Get, from a map or a snapshot.
type gets struct{ value, code int }

func readSnap(b impl.Base, s impl.Snap, key string) gets {
	v, code := impl.ReadSnap(b, s, key)
	return gets{v, code}
}

// keysIn has the keys of a map, and others.
func keysIn(m []impl.Entry) []string {
	keys := names("a", "b", "none", "k00", "x1", "abcdefghijkl")
	for _, e := range m {
		keys = append(keys, e.Key)
	}
	return keys
}

// growth is a repository that another may have become by growing.
type growth struct {
	name string
	b    impl.Base
	yes  bool
}

// modelGrows is for valid repositories.
func modelGrows(a, b impl.Base) bool {
	if len(a.Store) > len(b.Store) || len(a.Refs) > len(b.Refs) {
		return false
	}
	for i, r := range a.Refs {
		x := b.Refs[i]
		switch {
		case x.Name != r.Name, x.Version < r.Version, x.Version == r.Version && (x.Head != r.Head || x.Gone != r.Gone):
			return false
		}
	}
	return sameCommits(a.Store, b.Store[:len(a.Store)])
}

// changedStores changes one place of the store at a time; all of them are
// valid, and none has what the store had.
func changedStores(store []impl.Commit) [][]impl.Commit {
	list := [][]impl.Commit{}
	for i, c := range store {
		add := func(changed impl.Commit) {
			out := slices.Clone(store)
			out[i] = changed
			list = append(list, out)
		}
		for _, m := range changedMaps(c.Map) {
			add(commit(m, c.Parents...))
		}
		for _, parents := range otherParents(c.Parents, i+1) {
			add(commit(c.Map, parents...))
		}
	}
	return list
}

// changedMaps changes one entry, Value or Key.
func changedMaps(m []impl.Entry) [][]impl.Entry {
	list := [][]impl.Entry{}
	if len(m) < impl.MaxKeys {
		list = append(list, modelOf(m).edited([]impl.Edit{set("less", 0)}).entries(), modelOf(m).edited([]impl.Edit{set("zzz", 1)}).entries())
	}
	for _, e := range m {
		value := e.Value + 1
		if value > impl.MaxValue {
			value = -impl.MaxValue
		}
		list = append(list,
			modelOf(m).edited([]impl.Edit{gone(e.Key)}).entries(),
			modelOf(m).edited([]impl.Edit{set(e.Key, value)}).entries(),
			modelOf(m).edited([]impl.Edit{gone(e.Key), set("other", e.Value)}).entries())
	}
	return list
}

// otherParents has the valid parents of a commit that are not these.
func otherParents(parents []int, number int) [][]int {
	list := [][]int{}
	for p := 1; p < number; p++ {
		list = append(list, []int{p})
		for q := 1; q < number; q++ {
			if p != q {
				list = append(list, []int{p, q})
			}
		}
	}
	return slices.DeleteFunc(list, func(other []int) bool { return slices.Equal(other, parents) })
}

// changedRefs gives one reference at a time another state, and has the same
// ones too.
func changedRefs(b impl.Base) [][]impl.Ref {
	list := [][]impl.Ref{slices.Clone(b.Refs)}
	for i, r := range b.Refs {
		for _, v := range []int{1, 2, r.Version - 1, r.Version, r.Version + 1, r.Version + 2, impl.MaxValue} {
			if v < 1 || v > impl.MaxValue {
				continue
			}
			for _, x := range append(livesOf(r.Name, v, len(b.Store)), deleted(r.Name, v)) {
				out := slices.Clone(b.Refs)
				out[i] = x
				list = append(list, out)
			}
		}
	}
	return list
}

func livesOf(name string, version, commits int) []impl.Ref {
	list := []impl.Ref{}
	for id := 1; id <= commits; id++ {
		list = append(list, live(name, id, version))
	}
	return list
}

// misplacedRefs has lists that do not begin with the references of the same
// Names in the same order, whatever their Versions are.
func misplacedRefs(refs []impl.Ref) [][]impl.Ref {
	list := [][]impl.Ref{}
	for i, r := range refs {
		list = append(list, slices.Delete(slices.Clone(refs), i, i+1), refs[:i])
		for _, v := range []int{r.Version, min(r.Version+1, impl.MaxValue), impl.MaxValue} {
			named := slices.Clone(refs)
			named[i].Name, named[i].Version = "another", v
			list = append(list, named)
		}
		for j := range i {
			turned := slices.Clone(refs)
			turned[i], turned[j] = turned[j], turned[i]
			list = append(list, turned)
		}
		if len(refs) < impl.MaxRefs {
			list = append(list, slices.Insert(slices.Clone(refs), i, live("another", 1, 1)), slices.Insert(slices.Clone(refs), i, deleted("another", impl.MaxValue)))
		}
	}
	return list
}

// newerRefs counts a change of every reference that is not at MaxValue.
func newerRefs(refs []impl.Ref) []impl.Ref {
	out := slices.Clone(refs)
	for i, r := range out {
		switch {
		case r.Version == impl.MaxValue:
		case i%2 == 0:
			out[i] = live(r.Name, 1, r.Version+1)
		default:
			out[i] = deleted(r.Name, min(r.Version+1+i, impl.MaxValue))
		}
	}
	return out
}

// behind appends commits and references, as far as there is room.
func behind(b impl.Base, commits, refs int) impl.Base {
	out := impl.Base{Store: slices.Clone(b.Store), Refs: slices.Clone(b.Refs)}
	for range commits {
		if n := len(out.Store); n > 0 && n < impl.MaxCommits {
			out.Store = append(out.Store, commit(entries(entry("behind", n)), n))
		}
	}
	for i := range refs {
		if len(out.Refs) < impl.MaxRefs {
			out.Refs = append(out.Refs, live(fmt.Sprint("behind", i), 1, 1+i))
		}
	}
	return out
}

func badCommits(n int) []int {
	return []int{math.MinInt, -n, -1, 0, n + 1, n + 2, impl.MaxCommits + 1, math.MaxInt}
}
