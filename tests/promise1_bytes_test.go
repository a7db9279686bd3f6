package tests

import (
	"fmt"
	"slices"
	"strings"
	"testing"

	"loop.example/g00737/impl"
)

// encodings has encodings of commits and of repositories, valid or not, and
// other texts.
func encodings() []string {
	list := append(longerNumbers(), "", "\x00\x00", "\x01", "BR1", "\xff\xff\xff\xff", strings.Repeat("\x00", impl.MaxText), strings.Repeat("\x00", impl.MaxText+1))
	for _, n := range numbersOfSizes() {
		if n >= 0 {
			list = append(list, number(n))
		}
	}
	for _, c := range commitCases() {
		list = append(list, commitBytes(c.c))
	}
	for _, c := range baseCases() {
		text := baseBytes(c.b)
		list = append(list, text, text+"\x00", text[:len(text)/2], "B"+text)
	}
	for _, text := range invalidBodies() {
		list = append(list, text, sealed(text))
	}
	slices.Sort(list)
	return slices.Compact(list)
}

func overCommit(c impl.Commit) func() {
	return overBoth(overNumbers(c.Parents), overEntries(c.Map))
}

func (w *arguments) bytesCalls() []call {
	calls := []call{}
	for _, n := range numbersOfSizes() {
		calls = append(calls, call{fmt.Sprint("PutNumber ", n), func() (string, func()) {
			text, code := impl.PutNumber(n)
			return fmt.Sprint(text, code), nothing
		}})
	}
	for _, c := range w.commits {
		calls = append(calls, call{"EncodeCommit " + c.name, func() (string, func()) {
			text, code := impl.EncodeCommit(c.c)
			return fmt.Sprint(text, code), nothing
		}})
	}
	for i, b := range w.bases {
		calls = append(calls, call{"EncodeBase " + w.baseNames[i], func() (string, func()) {
			text, code := impl.EncodeBase(b)
			return fmt.Sprint(text, code), nothing
		}})
	}
	for _, text := range encodings() {
		calls = append(calls, decodeCalls(text)...)
	}
	return calls
}

func decodeCalls(text string) []call {
	return []call{{"TakeNumber, SumOf " + brief(text), func() (string, func()) {
		sum, code := impl.SumOf(text)
		list := []taken{}
		for _, at := range []int{-1, 0, 1, 3, len(text) - 1, len(text), len(text) + 1} {
			list = append(list, takeNumber(text, at))
		}
		return fmt.Sprint(sum, code, list), nothing
	}}, {"DecodeCommit " + brief(text), func() (string, func()) {
		c, code := impl.DecodeCommit(text)
		return fmt.Sprint(c, code), overCommit(c)
	}}, {"DecodeBase " + brief(text), func() (string, func()) {
		b, code := impl.DecodeBase(text)
		return fmt.Sprint(b, code), overBase(b)
	}}}
}

func TestPromise1DecodedIsNew(t *testing.T) {
	for _, n := range []int{1, 2, 5, impl.MaxCommits} {
		shared, _ := sharedBase(n)
		text, _ := impl.EncodeBase(shared)
		one, two := decodeBase(text), decodeBase(text)
		if one.code != 0 || !ownMemory(one.b) || !sameBases(two.b, shared) {
			t.Fatal("DecodeBase shares memory", n)
		}
	}
	c := commit(numbered(3), 2, 1)
	text, _ := impl.EncodeCommit(c)
	one, two := decodeCommit(text), decodeCommit(text)
	overCommit(one.c)()
	if !two.same(decodedCommit{c: c}) || !sameCommits([]impl.Commit{c}, []impl.Commit{commit(numbered(3), 2, 1)}) {
		t.Error("DecodeCommit shares memory", two)
	}
}

func TestPromise1NilIsEmptyInBytes(t *testing.T) {
	for _, c := range []impl.Commit{{}, {Parents: []int{}}, {Map: entries()}, {Parents: []int{}, Map: entries()}} {
		wantCommit(t, "nothing", c, "\x00\x00")
		for _, refs := range [][]impl.Ref{nil, {}} {
			wantEncoded(t, "nothing", impl.Base{Store: []impl.Commit{c}, Refs: refs}, sealed("BR1\x01\x00\x00\x00"))
		}
	}
	for _, b := range []impl.Base{{}, {Store: []impl.Commit{}, Refs: []impl.Ref{}}} {
		if text, code := impl.EncodeBase(b); text != "" || code != impl.ErrBad {
			t.Errorf("EncodeBase of no commits: %x %d", text, code)
		}
	}
}

// TestPromise1BytesOfEarlierCalls decodes texts that are wrong at some place
// between two that are right.
func TestPromise1BytesOfEarlierCalls(t *testing.T) {
	b := base(crossed(), crossedRefs()...)
	text, _ := impl.EncodeBase(b)
	for _, other := range encodings() {
		impl.DecodeCommit(other)
		impl.DecodeBase(other)
		if got := decodeBase(text); !got.same(decodedBase{b: b}) {
			t.Fatal("DecodeBase after", brief(other), got)
		}
	}
	kept := []decodedBase{}
	for i := range 60 {
		kept = append(kept, decodeBase(baseBytes(base(line(i+1), live("main", i+1, i+1)))))
	}
	for i, x := range kept {
		if !x.same(decodedBase{b: base(line(i+1), live("main", i+1, i+1))}) {
			t.Fatal("repository", i, "changed later", x)
		}
	}
}
