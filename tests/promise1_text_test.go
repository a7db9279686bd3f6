package tests

import (
	"fmt"
	"slices"
	"strings"
	"testing"

	"loop.example/g00737/impl"
)

// readTexts has texts of maps, edits and wishes, and others.
func readTexts() []string {
	list := []string{"", " ", ",", "a=1,", "!a,!b,", "commit main a=1,", strings.Repeat(" ", impl.MaxText-9) + "scan main", strings.Repeat(" ", impl.MaxText-8) + "scan main", strings.Repeat(",", impl.MaxText), strings.Repeat(",", impl.MaxText+1)}
	for _, c := range mapCases() {
		list = append(list, entriesText(c.m))
	}
	for _, c := range editCases() {
		list = append(list, partsText(c.list))
	}
	for _, w := range append(fewWishes(), wishKinds("main", "dev")...) {
		list = append(list, wishText(w), "  "+wishText(w)+" ", wishText(w)+" x")
	}
	for t := range integers() {
		list = append(list, "a="+t)
	}
	for _, c := range textCases() {
		list = append(list, c.t, "scan "+c.t)
	}
	slices.Sort(list)
	return slices.Compact(list)
}

func (w *arguments) textCalls() []call {
	calls := []call{}
	for i, m := range w.maps {
		calls = append(calls, call{"MapText " + w.mapNames[i], func() (string, func()) {
			text, code := impl.MapText(m)
			return fmt.Sprint(text, code), nothing
		}})
	}
	for i, list := range w.edits {
		calls = append(calls, call{"EditsText " + w.editNames[i], func() (string, func()) {
			text, code := impl.EditsText(list)
			return fmt.Sprint(text, code), nothing
		}})
	}
	for i, b := range w.bases {
		calls = append(calls, call{"BaseLines " + w.baseNames[i], func() (string, func()) {
			lines, code := impl.BaseLines(b)
			return fmt.Sprint(lines, code), overKeys(lines)
		}})
	}
	for i, list := range w.wishes {
		calls = append(calls, call{fmt.Sprint("WishText ", i), func() (string, func()) { return wishTexts(list), nothing }})
	}
	for i, list := range slices.Concat(w.pasts, [][]impl.Moment{w.moments}) {
		calls = append(calls, call{fmt.Sprint("MomentText, ResultText ", i), func() (string, func()) { return momentTexts(list), nothing }})
	}
	for _, text := range readTexts() {
		calls = append(calls, textReadCalls(text)...)
	}
	return calls
}

func wishTexts(list []impl.Wish) string {
	all := strings.Builder{}
	for _, w := range list {
		text, code := impl.WishText(w)
		fmt.Fprint(&all, text, code)
	}
	return all.String()
}

func momentTexts(list []impl.Moment) string {
	all := strings.Builder{}
	for _, m := range list {
		fmt.Fprint(&all, momentText(m), resultText(m.Result))
	}
	return all.String()
}

func textReadCalls(text string) []call {
	return []call{{"ReadMap " + brief(text), func() (string, func()) {
		x := readMap(text)
		return fmt.Sprint(x), overEntries(x.m)
	}}, {"ReadEdits " + brief(text), func() (string, func()) {
		x := readEdits(text)
		return fmt.Sprint(x), overEdits(x.list)
	}}, {"ReadWish " + brief(text), func() (string, func()) {
		x := readWish(text)
		return fmt.Sprint(x), overEdits(x.w.Edits)
	}}}
}

// TestPromise1ReadIsNew overwrites what was read, which must not reach what is
// read from the same text later or earlier.
func TestPromise1ReadIsNew(t *testing.T) {
	for _, text := range readTexts() {
		want, edits, wish := modelReadMap(text), modelReadEdits(text), modelReadWish(text)
		one, two, three := readMap(text), readEdits(text), readWish(text)
		kept, keptEdits, keptWish := readMap(text), readEdits(text), readWish(text)
		overEntries(one.m)()
		overEdits(two.list)()
		overEdits(three.w.Edits)()
		for _, x := range []mapped{kept, readMap(text)} {
			if !x.same(want) {
				t.Fatal("ReadMap shares memory", brief(text), x)
			}
		}
		for _, x := range []editing{keptEdits, readEdits(text)} {
			if !x.same(edits) {
				t.Fatal("ReadEdits shares memory", brief(text), x)
			}
		}
		for _, x := range []wished{keptWish, readWish(text)} {
			if !x.same(wish) {
				t.Fatal("ReadWish shares memory", brief(text), x)
			}
		}
	}
	for _, c := range validBases() {
		lines, _ := impl.BaseLines(c.b)
		kept, _ := impl.BaseLines(c.b)
		overKeys(lines)()
		if !slices.Equal(kept, modelLines(c.b)) {
			t.Fatal("BaseLines shares memory", c.name, kept)
		}
		wantLines(t, c.name, c.b, modelLines(c.b)...)
	}
}

// TestPromise1PrintedIsKept prints what uses one memory for several lists, with
// spare capacity that must not be written to.
func TestPromise1PrintedIsKept(t *testing.T) {
	m, edits, keys, parents := guard(numbered(3), markEntry), guard([]impl.Edit{gone("a"), set("b", 2)}, markEdit), guard([]string{"b", "a"}, "mark"), guard([]int{2, 1}, 77)
	b := guardBase(base([]impl.Commit{{Map: m}, {Parents: parents[1:], Map: m}, {Parents: parents, Map: m}}, live("main", 3, 1)))
	moment := impl.Moment{Op: opCommit("main", 1), Result: impl.Result{Keys: keys, Map: m}}
	moment.Op.Edits = edits
	memory := func() string {
		return fmt.Sprint(whole(m), whole(edits), whole(keys), whole(parents), baseMemory(b), momentMemory(moment))
	}
	before := memory()
	for range 3 {
		wantMapText(t, "kept", m, "k00=0,k01=1,k02=2")
		wantEditsText(t, "kept", edits, "!a,b=2")
		wantWishText(t, impl.Wish{Kind: impl.OpCommit, Name: "main", Edits: edits}, "commit main !a,b=2")
		wantResultText(t, moment.Result, texts{t: "ok keys b,a map k00=0,k01=1,k02=2"})
		wantMomentText(t, moment, texts{t: "step 0 client 0 wish 0 commit main from 1: ok keys b,a map k00=0,k01=1,k02=2"})
		wantLines(t, "kept", b, "commit 1 map k00=0,k01=1,k02=2", "commit 2 of 1 map k00=0,k01=1,k02=2", "commit 3 of 2 of 1 map k00=0,k01=1,k02=2", "branch main version 1 head 3")
		if memory() != before {
			t.Fatal("an argument has changed", memory())
		}
	}
}

func TestPromise1NilIsEmptyInTexts(t *testing.T) {
	for _, list := range [][]impl.Edit{nil, {}} {
		wantEditsText(t, "empty", list, "-")
		wantWishText(t, impl.Wish{Kind: impl.OpCommit, Name: "a", Edits: list}, "commit a -")
		wantWishText(t, impl.Wish{Kind: impl.OpScan, Name: "a", Edits: list}, "scan a")
		for _, m := range [][]impl.Entry{nil, {}} {
			wantMapText(t, "empty", m, "-")
			for _, keys := range [][]string{nil, {}} {
				r := impl.Result{Keys: keys, Map: m}
				wantResultText(t, r, texts{t: "ok"})
				wantMomentText(t, impl.Moment{Op: impl.Op{Edits: list}, Result: r}, texts{t: "step 0 client 0 wish 0: ok"})
				wantMomentText(t, impl.Moment{Op: impl.Op{Kind: impl.OpScan, Name: "a", Edits: list}, Result: r}, texts{t: "step 0 client 0 wish 0 scan a: ok"})
			}
			for _, parents := range [][]int{nil, {}} {
				for _, refs := range [][]impl.Ref{nil, {}} {
					wantLines(t, "empty", impl.Base{Store: []impl.Commit{{Parents: parents, Map: m}}, Refs: refs}, "commit 1 map -")
				}
			}
		}
	}
}

// TestPromise1TextsOfEarlierCalls reads texts that are wrong between two that
// are right.
func TestPromise1TextsOfEarlierCalls(t *testing.T) {
	kept := []wished{}
	for _, w := range validWishes()[:60] {
		kept = append(kept, readWish(wishText(w)))
	}
	for _, text := range readTexts() {
		impl.ReadMap(text)
		impl.ReadEdits(text)
		impl.ReadWish(text)
		wantMapText(t, "after "+brief(text), numbered(2), "k00=0,k01=1")
		wantEditsText(t, "after "+brief(text), []impl.Edit{gone("a"), set("b", 0)}, "!a,b=0")
		wantWishText(t, wishMerge("main", "dev"), "merge main dev")
	}
	for i, w := range validWishes()[:60] {
		if !kept[i].same(wished{w: w}) {
			t.Fatal("wish", i, "changed later", kept[i], w)
		}
	}
}
