package tests

import (
	"fmt"
	"math"
	"math/rand/v2"
	"slices"
	"testing"

	"loop.example/g00737/impl"
)

func someSnaps(b impl.Base) []impl.Snap {
	n := len(b.Store)
	return []impl.Snap{{}, snap("main", 1), snap("never", n), snap("main", n+1), snap("a b", 1), snap("main", math.MinInt)}
}

// snapCalls has every repository in both places of GrowsFrom, so also the same
// memory in both.
func (w *arguments) snapCalls() []call {
	calls := []call{}
	for i, b := range w.bases {
		name := w.baseNames[i]
		for _, c := range refNames(b.Refs) {
			calls = append(calls, call{"OpenSnap " + name + ", " + brief(c.t), func() (string, func()) {
				return fmt.Sprint(openSnap(b, c.t)), nothing
			}})
		}
		for _, s := range someSnaps(b) {
			calls = append(calls, snapCallsOf(fmt.Sprint(name, ", ", s), b, s)...)
		}
		for j, other := range w.bases {
			calls = append(calls, call{"GrowsFrom " + name + ", " + w.baseNames[j], func() (string, func()) {
				yes, code := impl.GrowsFrom(b, other)
				return fmt.Sprint(yes, code), nothing
			}})
		}
	}
	return calls
}

func snapCallsOf(name string, b impl.Base, s impl.Snap) []call {
	calls := []call{{"SnapOK " + name, func() (string, func()) { return fmt.Sprint(impl.SnapOK(b, s)), nothing }}}
	for _, c := range textCases() {
		calls = append(calls, call{"ReadSnap, ScanSnap " + name + ", " + brief(c.t), func() (string, func()) {
			from, one := impl.ScanSnap(b, s, c.t, "")
			to, two := impl.ScanSnap(b, s, "", c.t)
			return fmt.Sprint(readSnap(b, s, c.t), from, one, to, two), overBoth(overEntries(from), overEntries(to))
		}})
	}
	for _, other := range someSnaps(b) {
		calls = append(calls, call{fmt.Sprint("DiffSnaps ", name, ", ", other), func() (string, func()) {
			d, code := impl.DiffSnaps(b, s, other)
			return fmt.Sprint(d, code), overEdits(d)
		}})
	}
	return calls
}

// TestPromise1SnapsAreNew has commits whose maps are in the same memory.
func TestPromise1SnapsAreNew(t *testing.T) {
	b, m := sharedBase(5)
	text := fmt.Sprint(b)
	for id := 1; id <= 5; id++ {
		one, _ := impl.ScanSnap(b, snap("main", id), "", "")
		two, _ := impl.ScanSnap(b, snap("main", id), "", "")
		part, _ := impl.ScanSnap(b, snap("dev", id), "k01", "k02")
		fill(one, markEntry)
		fill(part, markEntry)
		if !slices.Equal(two, numbered(3)) || !slices.Equal(m, numbered(3)) || fmt.Sprint(b) != text {
			t.Fatal("ScanSnap shares memory", id)
		}
	}
	c := base([]impl.Commit{commit(numbered(3)), commit(nil, 1)}, live("main", 2, 2))
	one, _ := impl.DiffSnaps(c, snap("main", 2), snap("main", 1))
	two, _ := impl.DiffSnaps(c, snap("main", 2), snap("main", 1))
	fill(one, markEdit)
	if !slices.Equal(two, numberedEdits(3)) || !slices.Equal(c.Store[0].Map, numbered(3)) {
		t.Error("DiffSnaps shares memory", two)
	}
}

func TestPromise1NilIsEmptyInSnaps(t *testing.T) {
	none, empty := base([]impl.Commit{{}}), impl.Base{Store: []impl.Commit{{Parents: []int{}, Map: entries()}}, Refs: []impl.Ref{}}
	for _, a := range []impl.Base{none, empty} {
		for _, b := range []impl.Base{none, empty} {
			wantGrows(t, "nothing", a, b, true)
			wantGrows(t, "nothing with more behind", a, behind(b, 2, 2), true)
			wantGrows(t, "back to nothing", behind(a, 2, 0), b, false)
		}
		s := snap("x", 1)
		m, code := impl.ScanSnap(a, s, "", "")
		wantEntries(t, "ScanSnap of nothing", m, code, nil, 0)
		d, code := impl.DiffSnaps(a, s, s)
		wantEdits(t, "DiffSnaps of nothing", d, code, nil, 0)
		wantOpen(t, "of nothing", a, "x", opens{code: impl.ErrName})
		if got := readSnap(a, s, "a"); got != (gets{code: impl.ErrNone}) || !impl.SnapOK(a, s) {
			t.Error("ReadSnap of nothing", got)
		}
	}
}

// TestPromise1SnapsOfEarlierCalls keeps the results for the repositories of a
// run: they stay as they were, however the run goes on.
func TestPromise1SnapsOfEarlierCalls(t *testing.T) {
	type kept struct {
		s impl.Snap
		m []impl.Entry
		d []impl.Edit
	}
	list, texts := []kept{}, []string{}
	r := rand.New(rand.NewPCG(13, 1))
	b, _ := impl.NewBase(numbered(6))
	for range 200 {
		b = doOp(b, randomOp(r, len(b.Store))).b
		for _, name := range names("main", "x") {
			s, code := impl.OpenSnap(b, name)
			if code != 0 {
				continue
			}
			m, _ := impl.ScanSnap(b, s, "", "")
			d, _ := impl.DiffSnaps(b, snap("main", 1), s)
			k := kept{s, m, d}
			list, texts = append(list, k), append(texts, fmt.Sprint(k))
		}
	}
	for i, k := range list {
		if fmt.Sprint(k) != texts[i] {
			t.Fatal("result", i, "changed later", k, texts[i])
		}
	}
	if len(list) < 100 {
		t.Error("snapshots", len(list))
	}
}
