package tests

import (
	"math/rand/v2"
	"slices"
	"testing"

	"loop.example/g00737/impl"
)

// throughTexts returns what is recovered from the texts of wishes.
func throughTexts(t *testing.T, wanted [][]impl.Wish) [][]impl.Wish {
	t.Helper()
	out := lists()
	for _, list := range wanted {
		again := wishes()
		for _, w := range list {
			text, code := impl.WishText(w)
			x := readWish(text)
			if code != 0 || x.code != 0 {
				t.Fatal("ReadWish of WishText", w, text, x)
			}
			again = append(again, x.w)
		}
		out = append(out, again)
	}
	return out
}

// checkTexts expects all texts of a world to be what its values are.
func checkTexts(t *testing.T, what string, w impl.World) {
	t.Helper()
	wantLines(t, what, w.Base, modelLines(w.Base)...)
	for _, m := range w.Moments {
		wantMomentText(t, m, modelMomentText(m))
		wantResultText(t, m.Result, modelResultText(m.Result))
	}
	for _, c := range w.Clients {
		wantMapText(t, what, c.Map, entriesText(c.Map))
		for _, x := range c.Wishes {
			wantWishText(t, x, wishText(x))
			wantEditsText(t, what, x.Edits, partsText(x.Edits))
		}
	}
	for _, c := range w.Base.Store {
		wantMapText(t, what, c.Map, entriesText(c.Map))
	}
}

func TestPromise15EveryWorld(t *testing.T) {
	codes := map[int]bool{}
	for _, c := range validWorlds() {
		checkTexts(t, c.name, c.w)
		for _, m := range c.w.Moments {
			codes[m.Result.Code] = true
		}
	}
	for _, code := range []int{impl.OK, impl.ErrNone, impl.ErrName, impl.ErrConflict, impl.ErrRetries, impl.ErrExists} {
		if !codes[code] {
			t.Error("no moment with the Code", code)
		}
	}
}

// TestPromise15SameRuns runs wishes and what is recovered from their texts.
func TestPromise15SameRuns(t *testing.T) {
	for seed := range 20 {
		picks := randomPicks(rand.New(rand.NewPCG(15, uint64(seed))), 80, 5)
		one := runPicks(newWorld(startBase(), runWishes(), "main", "x"), picks)
		two := runPicks(newWorld(startBase(), throughTexts(t, runWishes()), "main", "x"), picks)
		if !sameRan(one, two) {
			t.Fatal("a run of wishes that were read", seed, one, two)
		}
		checkTexts(t, "run", two.w)
	}
}

// TestPromise15RandomEdits goes from map to map by the texts of differences,
// with maps that are read from their texts.
func TestPromise15RandomEdits(t *testing.T) {
	read := 0
	for seed := range 30 {
		r := rand.New(rand.NewPCG(15, uint64(100+seed)))
		m := numbered(r.IntN(impl.MaxKeys + 1))
		for range 100 {
			next := changedAtRandom(r, m)
			list, _ := impl.Diff(m, next)
			text, code := impl.EditsText(list)
			if code != 0 {
				continue
			}
			kept, _ := impl.MapText(m)
			got, code := impl.ApplyEdits(readMap(kept).m, readEdits(text).list)
			if code != 0 || !slices.Equal(got, next) {
				t.Fatal("ApplyEdits of texts", kept, text, got, next)
			}
			m, read = got, read+1
		}
	}
	if read < 1000 {
		t.Error("differences", read)
	}
}

// TestPromise15OtherLines expects that repositories with one difference have
// different lines.
func TestPromise15OtherLines(t *testing.T) {
	for _, c := range validBases()[:6] {
		lines, _ := impl.BaseLines(c.b)
		for _, store := range changedStores(c.b.Store) {
			other := base(store, c.b.Refs...)
			if more, code := impl.BaseLines(other); code != 0 || slices.Equal(lines, more) != sameBases(c.b, other) {
				t.Fatalf("BaseLines %s: %q for %v and %v", c.name, more, c.b, other)
			}
		}
		for _, refs := range slices.Concat(changedRefs(c.b), misplacedRefs(c.b.Refs)) {
			other := base(c.b.Store, refs...)
			if more, code := impl.BaseLines(other); code != 0 || slices.Equal(lines, more) != sameBases(c.b, other) {
				t.Fatalf("BaseLines %s: %q for %v and %v", c.name, more, c.b, other)
			}
		}
	}
}
