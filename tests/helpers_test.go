package tests

import (
	"fmt"
	"math"
	"slices"
	"strings"

	"loop.example/g00737/impl"
)

func set(key string, value int) impl.Edit { return impl.Edit{Key: key, Value: value} }

func gone(key string) impl.Edit { return impl.Edit{Key: key, Gone: true} }

func entry(key string, value int) impl.Entry { return impl.Entry{Key: key, Value: value} }

// numbered returns n entries k00=0, k01=1 and so on: from 101 on the order of
// the keys breaks, which does not matter for lists that are too large anyway.
func numbered(n int) []impl.Entry {
	list := []impl.Entry{}
	for i := range n {
		list = append(list, entry(fmt.Sprintf("k%02d", i), i))
	}
	return list
}

func numberedEdits(n int) []impl.Edit {
	list := []impl.Edit{}
	for _, e := range numbered(n) {
		list = append(list, set(e.Key, e.Value))
	}
	return list
}

// guard copies a list into memory with spare capacity that is not zero, so
// that a write behind the end of an argument can be seen.
func guard[T any](list []T, mark T) []T {
	out := append(slices.Clone(list), mark, mark, mark)
	return out[:len(list)]
}

func whole[T any](list []T) []T { return list[:cap(list)] }

func fill[T any](list []T, x T) {
	for i := range whole(list) {
		whole(list)[i] = x
	}
}

type mapCase struct {
	name      string
	m         []impl.Entry
	long, bad bool
}

func mapCases() []mapCase {
	list := []mapCase{
		{name: "nil"},
		{name: "empty", m: []impl.Entry{}},
		{name: "one", m: []impl.Entry{entry("a", 1)}},
		{name: "some", m: []impl.Entry{entry("A", -impl.MaxValue), entry("_", 0), entry("a", impl.MaxValue), entry("k05", 7)}},
		{name: "eleven", m: numbered(impl.MaxKeys - 1)},
		{name: "full", m: numbered(impl.MaxKeys)},
		{name: "longest key", m: []impl.Entry{entry("abcdefghijkl", 1)}},
		{name: "too many", m: numbered(impl.MaxKeys + 1), bad: true},
		{name: "MaxList", m: numbered(impl.MaxList), bad: true},
		{name: "beyond MaxList", m: numbered(impl.MaxList + 1), bad: true, long: true},
		{name: "unsorted", m: []impl.Entry{entry("b", 1), entry("a", 1)}, bad: true},
		{name: "unsorted end", m: []impl.Entry{entry("a", 1), entry("c", 1), entry("b", 1)}, bad: true},
		{name: "twice", m: []impl.Entry{entry("a", 1), entry("a", 2)}, bad: true},
		{name: "equal twice", m: []impl.Entry{entry("a", 1), entry("a", 1)}, bad: true},
		{name: "no key", m: []impl.Entry{entry("", 1)}, bad: true},
		{name: "digit", m: []impl.Entry{entry("1", 1)}, bad: true},
		{name: "later key", m: []impl.Entry{entry("a", 1), entry("b-", 1)}, bad: true},
		{name: "long key", m: []impl.Entry{entry("abcdefghijklm", 1)}, bad: true},
		{name: "endless key", m: []impl.Entry{entry(strings.Repeat("a", impl.MaxText+1), 1)}, bad: true},
	}
	for _, v := range badValues() {
		list = append(list, mapCase{name: fmt.Sprint("value ", v), m: []impl.Entry{entry("a", v)}, bad: true})
		list = append(list, mapCase{name: fmt.Sprint("later value ", v), m: []impl.Entry{entry("a", 0), entry("b", v)}, bad: true})
	}
	return list
}

func badValues() []int {
	return []int{impl.MaxValue + 1, -impl.MaxValue - 1, math.MaxInt, math.MinInt}
}

func values() []int {
	return append([]int{0, 1, -1, impl.MaxValue, -impl.MaxValue}, badValues()...)
}

type editCase struct {
	name      string
	list      []impl.Edit
	long, bad bool
}

func editCases() []editCase {
	list := []editCase{
		{name: "nil"},
		{name: "empty", list: []impl.Edit{}},
		{name: "set", list: []impl.Edit{set("a", -impl.MaxValue)}},
		{name: "gone", list: []impl.Edit{gone("a"), gone("k05")}},
		{name: "mixed", list: []impl.Edit{set("A", impl.MaxValue), gone("_"), set("k00", 5), gone("k01"), set("z", 0)}},
		{name: "longest key", list: []impl.Edit{set("abcdefghijkl", 1)}},
		{name: "six", list: numberedEdits(impl.MaxEdits)},
		{name: "too many", list: numberedEdits(impl.MaxEdits + 1), bad: true},
		{name: "MaxList", list: numberedEdits(impl.MaxList), bad: true},
		{name: "beyond MaxList", list: numberedEdits(impl.MaxList + 1), bad: true, long: true},
		{name: "unsorted", list: []impl.Edit{set("b", 1), set("a", 1)}, bad: true},
		{name: "unsorted gone", list: []impl.Edit{gone("b"), gone("a")}, bad: true},
		{name: "twice", list: []impl.Edit{set("a", 1), gone("a")}, bad: true},
		{name: "no key", list: []impl.Edit{gone("")}, bad: true},
		{name: "digit", list: []impl.Edit{gone("1")}, bad: true},
		{name: "later key", list: []impl.Edit{set("a", 1), set("b ", 1)}, bad: true},
		{name: "long key", list: []impl.Edit{gone("abcdefghijklm")}, bad: true},
		{name: "gone with value", list: []impl.Edit{{Key: "a", Value: 1, Gone: true}}, bad: true},
		{name: "gone with value later", list: []impl.Edit{gone("a"), {Key: "b", Value: -1, Gone: true}}, bad: true},
	}
	for _, v := range badValues() {
		list = append(list, editCase{name: fmt.Sprint("value ", v), list: []impl.Edit{set("a", v)}, bad: true})
		list = append(list, editCase{name: fmt.Sprint("later value ", v), list: []impl.Edit{set("a", 0), set("b", v)}, bad: true})
	}
	return list
}

type textCase struct {
	t               string
	isName, tooLong bool
}

func textCases() []textCase {
	return []textCase{
		{t: "a", isName: true},
		{t: "A", isName: true},
		{t: "Z", isName: true},
		{t: "z", isName: true},
		{t: "_", isName: true},
		{t: "_9", isName: true},
		{t: "b", isName: true},
		{t: "k00", isName: true},
		{t: "k05", isName: true},
		{t: "k11", isName: true},
		{t: "k99", isName: true},
		{t: "aZ_09", isName: true},
		{t: "abcdefghijkl", isName: true},
		{t: "abcdefghijklm"},
		{t: ""},
		{t: "0"},
		{t: "9a"},
		{t: "a b"},
		{t: "a-"},
		{t: "\x00"},
		{t: "a\xff"},
		{t: "\xc3\xa9"},
		{t: strings.Repeat("a", impl.MaxText)},
		{t: strings.Repeat("a", impl.MaxText+1), tooLong: true},
	}
}

func brief(t string) string {
	if len(t) > 20 {
		return fmt.Sprintf("%q.. of %d bytes", t[:20], len(t))
	}
	return fmt.Sprintf("%q", t)
}
