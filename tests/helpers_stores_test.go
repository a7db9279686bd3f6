package tests

import (
	"math"
	"math/bits"
	"math/rand/v2"
	"slices"

	"loop.example/g00737/impl"
)

func commit(m []impl.Entry, parents ...int) impl.Commit {
	return impl.Commit{Parents: parents, Map: m}
}

// line returns n commits, each of which has the one before as its parent.
func line(n int) []impl.Commit {
	list := []impl.Commit{}
	for i := range n {
		c := commit([]impl.Entry{entry("n", i)})
		if i > 0 {
			c.Parents = []int{i}
		}
		list = append(list, c)
	}
	return list
}

// ladder returns n commits, each of which merges the two before, so that the
// number of ways to the first one grows like the Fibonacci numbers.
func ladder(n int) []impl.Commit {
	list := line(n)
	for i := 2; i < n; i++ {
		list[i].Parents = []int{i, i - 1}
	}
	return list
}

// crossed returns two branches that merge each other's heads twice.
func crossed() []impl.Commit {
	return []impl.Commit{
		commit([]impl.Entry{entry("a", 0), entry("b", 0)}),
		commit([]impl.Entry{entry("a", 1), entry("b", 0)}, 1),
		commit([]impl.Entry{entry("a", 0), entry("b", 1)}, 1),
		commit([]impl.Entry{entry("a", 1), entry("b", 1)}, 2, 3),
		commit([]impl.Entry{entry("a", 2), entry("b", 1)}, 3, 2),
		commit([]impl.Entry{entry("a", 2), entry("b", 2)}, 5, 4),
		commit([]impl.Entry{entry("a", 2), entry("b", 1), entry("c", 3)}, 4, 5),
	}
}

type storeCase struct {
	name      string
	store     []impl.Commit
	long, bad bool
}

// storeCases counts an empty store as bad, which it is except for AddCommit.
func storeCases() []storeCase {
	list := []storeCase{
		{name: "one commit", store: line(1)},
		{name: "one commit with nothing", store: []impl.Commit{{}}},
		{name: "one commit with empty slices", store: []impl.Commit{{Parents: []int{}, Map: []impl.Entry{}}}},
		{name: "one full commit", store: []impl.Commit{commit(numbered(impl.MaxKeys))}},
		{name: "two", store: line(2)},
		{name: "fork", store: append(line(2), commit(numbered(3), 1))},
		{name: "crossed", store: crossed()},
		{name: "ladder", store: ladder(9)},
		{name: "59", store: ladder(impl.MaxCommits - 1)},
		{name: "full line", store: line(impl.MaxCommits)},
		{name: "full ladder", store: ladder(impl.MaxCommits)},
		{name: "nil", bad: true},
		{name: "empty", store: []impl.Commit{}, bad: true},
		{name: "61", store: line(impl.MaxCommits + 1), bad: true},
		{name: "MaxList", store: line(impl.MaxList), bad: true},
		{name: "beyond MaxList", store: line(impl.MaxList + 1), bad: true, long: true},
		{name: "nothing beyond MaxList", store: make([]impl.Commit, impl.MaxList+1), bad: true, long: true},
	}
	for _, c := range badStores() {
		c.bad = true
		list = append(list, c)
	}
	return list
}

func badStores() []storeCase {
	unsorted := []impl.Entry{entry("b", 1), entry("a", 1)}
	return []storeCase{
		{name: "first with itself", store: []impl.Commit{commit(nil, 1)}},
		{name: "first with 0", store: []impl.Commit{commit(nil, 0)}},
		{name: "first with a later one", store: []impl.Commit{commit(nil, 2), commit(nil, 1)}},
		{name: "first of an end", store: append([]impl.Commit{commit(nil, 2)}, line(3)[1:]...)},
		{name: "first map unsorted", store: []impl.Commit{commit(unsorted)}},
		{name: "first map bad of two", store: []impl.Commit{commit(unsorted), commit(nil, 1)}},
		{name: "second without parents", store: []impl.Commit{commit(nil), commit(nil)}},
		{name: "last without parents", store: append(line(5), commit(nil))},
		{name: "parent itself", store: append(line(3), commit(nil, 4))},
		{name: "parent later", store: []impl.Commit{commit(nil), commit(nil, 1), commit(nil, 4), commit(nil, 1)}},
		{name: "parent missing", store: append(line(3), commit(nil, 5))},
		{name: "parent 0", store: append(line(3), commit(nil, 0))},
		{name: "parent -1", store: append(line(3), commit(nil, -1))},
		{name: "parent MaxInt", store: append(line(3), commit(nil, math.MaxInt))},
		{name: "parent MinInt", store: append(line(3), commit(nil, math.MinInt))},
		{name: "parents equal", store: append(line(3), commit(nil, 2, 2))},
		{name: "parents, first is 0", store: append(line(3), commit(nil, 0, 2))},
		{name: "parents, second is 0", store: append(line(3), commit(nil, 2, 0))},
		{name: "parents, first is late", store: append(line(3), commit(nil, 4, 2))},
		{name: "parents, second is late", store: append(line(3), commit(nil, 2, 4))},
		{name: "three parents", store: append(line(3), commit(nil, 1, 2, 3))},
		{name: "three parents, equal", store: append(line(3), commit(nil, 1, 1, 1))},
		{name: "parents beyond MaxList", store: append(line(3), impl.Commit{Parents: make([]int, impl.MaxList+1)})},
		{name: "map beyond MaxList", store: append(line(3), commit(numbered(impl.MaxList+1), 1))},
		{name: "map too large", store: append(line(3), commit(numbered(impl.MaxKeys+1), 1))},
		{name: "last map unsorted", store: append(line(impl.MaxCommits-1), commit(unsorted, 1))},
		{name: "value", store: append(line(1), commit([]impl.Entry{entry("a", impl.MaxValue+1)}, 1))},
	}
}

// commitCase is a commit that is valid at the numbers from one on, but only as
// the first if that is 1, and at no number if it is 0.
type commitCase struct {
	name string
	c    impl.Commit
	from int
}

func (v commitCase) validAs(number int) bool {
	if v.from == 1 {
		return number == 1
	}
	return v.from > 0 && number >= v.from
}

func commitCases() []commitCase {
	some := numbered(4)
	return []commitCase{
		{"nothing", impl.Commit{}, 1},
		{"empty slices", impl.Commit{Parents: []int{}, Map: []impl.Entry{}}, 1},
		{"map", commit(some), 1},
		{"parent 1", commit(some, 1), 2},
		{"parent 2", commit(nil, 2), 3},
		{"full map", commit(numbered(impl.MaxKeys), 1), 2},
		{"parents 1, 2", commit(some, 1, 2), 3},
		{"parents 2, 1", commit(some, 2, 1), 3},
		{"parents 1, 7", commit(some, 1, 7), 8},
		{"parent 59", commit(some, 59), 60},
		{"parent 60", commit(some, 60), 61},
		{"parents 60, 1", commit(some, 60, 1), 61},
		{"parent 61", commit(some, 61), 62},
		{"parents 1, 61", commit(some, 1, 61), 62},
		{"parent 0", commit(some, 0), 0},
		{"parent -1", commit(some, -1), 0},
		{"parent MaxInt", commit(some, math.MaxInt), 0},
		{"parent MinInt", commit(some, math.MinInt), 0},
		{"parents 1, 1", commit(some, 1, 1), 0},
		{"parents 1, 0", commit(some, 1, 0), 0},
		{"parents 1, 2, 3", commit(some, 1, 2, 3), 0},
		{"many parents", impl.Commit{Parents: make([]int, impl.MaxList+1)}, 0},
		{"unsorted map", commit([]impl.Entry{entry("b", 1), entry("a", 1)}, 1), 0},
		{"unsorted map, no parent", commit([]impl.Entry{entry("b", 1), entry("a", 1)}), 0},
		{"large map", commit(numbered(impl.MaxKeys+1), 1), 0},
		{"map beyond MaxList", commit(numbered(impl.MaxList+1), 1), 0},
		{"value", commit([]impl.Entry{entry("a", -impl.MaxValue-1)}, 1), 0},
	}
}

// numbersAround has commit numbers at and beyond both ends of a store.
func numbersAround(store []impl.Commit) []int {
	list := []int{math.MinInt, -1, 0, 1, 2, len(store) / 2, len(store) - 1, len(store), len(store) + 1, impl.MaxCommits, impl.MaxCommits + 1, math.MaxInt}
	slices.Sort(list)
	return slices.Compact(list)
}

func sameCommits(a, b []impl.Commit) bool {
	return slices.EqualFunc(a, b, func(x, y impl.Commit) bool {
		return slices.Equal(x.Parents, y.Parents) && slices.Equal(x.Map, y.Map)
	})
}

// ancestorSets returns for each number the set of the ancestors, as bits.
func ancestorSets(store []impl.Commit) []uint64 {
	sets := []uint64{0}
	for i, c := range store {
		set := uint64(1) << (i + 1)
		for _, p := range c.Parents {
			set |= sets[p]
		}
		sets = append(sets, set)
	}
	return sets
}

func inSet(set uint64) []int {
	list := []int{}
	for n := range 64 {
		if set>>n&1 == 1 {
			list = append(list, n)
		}
	}
	return list
}

func greatest(set uint64) int { return bits.Len64(set) - 1 }

func modelLine(store []impl.Commit, id int) []int {
	list := []int{id}
	for id != 1 {
		id = store[id-1].Parents[0]
		list = append(list, id)
	}
	return list
}

// everyStore passes all stores of n commits, with any parents in any order.
func everyStore(n int, run func(store []impl.Commit)) {
	var grow func(store []impl.Commit)
	grow = func(store []impl.Commit) {
		if len(store) == n {
			run(store)
			return
		}
		for p := 1; p <= len(store); p++ {
			grow(append(store, commit(nil, p)))
			for q := 1; q <= len(store); q++ {
				if p != q {
					grow(append(store, commit(nil, p, q)))
				}
			}
		}
	}
	grow(append(make([]impl.Commit, 0, n), impl.Commit{}))
}

// grownStores returns full stores that differ in how often they merge; each
// commit changes a few keys of its first parent. They are always the same.
func grownStores() [][]impl.Commit {
	list := [][]impl.Commit{}
	for seed := range 10 {
		r := rand.New(rand.NewPCG(uint64(seed), 4))
		store := []impl.Commit{commit(numbered(r.IntN(impl.MaxKeys + 1)))}
		for len(store) < impl.MaxCommits {
			p := 1 + r.IntN(len(store))
			c := commit(changedAtRandom(r, store[p-1].Map), p)
			if q := 1 + r.IntN(len(store)); q != p && r.IntN(10) < seed {
				c.Parents = append(c.Parents, q)
			}
			store = append(store, c)
		}
		list = append(list, store)
	}
	return list
}

func changedAtRandom(r *rand.Rand, m []impl.Entry) []impl.Entry {
	out := modelOf(m)
	for range r.IntN(4) {
		key := numbered(16)[r.IntN(16)].Key
		if r.IntN(4) == 0 {
			delete(out, key)
		} else if len(out) < impl.MaxKeys {
			out[key] = r.IntN(3)
		}
	}
	return out.entries()
}
