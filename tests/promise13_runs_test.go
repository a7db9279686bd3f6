package tests

import (
	"fmt"
	"math/rand/v2"
	"slices"
	"testing"

	"loop.example/g00737/impl"
)

// seen is what all snapshots of a repository showed.
type seen struct {
	b     impl.Base
	snaps []impl.Snap
	maps  [][]impl.Entry
}

// see opens a snapshot of every branch.
func see(t *testing.T, b impl.Base) seen {
	t.Helper()
	x := seen{b: b}
	for _, r := range b.Refs {
		got := openSnap(b, r.Name)
		if r.Gone {
			wantOpen(t, "of what is gone", b, r.Name, opens{code: impl.ErrName})
			continue
		}
		wantOpen(t, "of a branch", b, r.Name, opens{s: snap(r.Name, r.Head)})
		m, code := impl.ScanSnap(b, got.s, "", "")
		wantEntries(t, fmt.Sprint("ScanSnap ", got.s), m, code, b.Store[r.Head-1].Map, 0)
		x.snaps, x.maps = append(x.snaps, got.s), append(x.maps, m)
	}
	return x
}

// checkSeen expects that a later repository shows all as it was.
func checkSeen(t *testing.T, what string, x seen, later impl.Base) {
	t.Helper()
	wantGrows(t, what, x.b, later, true)
	wantGrows(t, what+", back", later, x.b, sameBases(x.b, later))
	for i, s := range x.snaps {
		if !impl.SnapOK(later, s) {
			t.Fatal("SnapOK", what, s)
		}
		m, code := impl.ScanSnap(later, s, "", "")
		wantEntries(t, fmt.Sprint("ScanSnap, ", what, ", ", s), m, code, x.maps[i], 0)
		for _, key := range keysIn(x.maps[i]) {
			if now, then := readSnap(later, s, key), readSnap(x.b, s, key); now != then || now.value != modelOf(x.maps[i])[key] {
				t.Fatal("ReadSnap", what, s, key, now, then)
			}
		}
		for j, other := range x.snaps {
			d, code := impl.DiffSnaps(later, s, other)
			wantEdits(t, fmt.Sprint("DiffSnaps, ", what, ", ", s, other), d, code, modelDiff(x.maps[i], x.maps[j]), 0)
		}
	}
}

// TestPromise13EveryOp executes every operation in every repository, also such
// that fail.
func TestPromise13EveryOp(t *testing.T) {
	for _, c := range validBases() {
		for i, o := range validOps() {
			x := doOp(c.b, o)
			wantGrows(t, fmt.Sprint(c.name, ", ", o), c.b, x.b, true)
			wantGrows(t, fmt.Sprint(c.name, ", back, ", o), x.b, c.b, sameBases(x.b, c.b))
			if i%20 == 0 {
				checkSeen(t, fmt.Sprint(c.name, ", ", o), see(t, c.b), x.b)
			}
		}
	}
}

// TestPromise13LongRuns goes on until the store is full and longer; branches
// are deleted and created again on the way.
func TestPromise13LongRuns(t *testing.T) {
	for seed := range 5 {
		r := rand.New(rand.NewPCG(uint64(seed), 13))
		b, _ := impl.NewBase(numbered(r.IntN(impl.MaxKeys + 1)))
		kept, deletions := []seen{}, 0
		for i := range 600 {
			if i%15 == 0 {
				kept = append(kept, see(t, b))
			}
			x := doOp(b, randomOp(r, len(b.Store)))
			wantGrows(t, "one operation", b, x.b, true)
			if slices.ContainsFunc(x.b.Refs, func(r impl.Ref) bool { return r.Gone }) {
				deletions++
			}
			b = x.b
		}
		for i, x := range kept {
			checkSeen(t, fmt.Sprint("run ", seed, " from ", i), x, b)
			for j, y := range kept[i:] {
				wantGrows(t, fmt.Sprint("run ", seed, " from ", i, ", ", j, " later"), x.b, y.b, true)
			}
		}
		if len(b.Store) != impl.MaxCommits || deletions == 0 {
			t.Error("run", seed, "ends with", len(b.Store), "commits", deletions)
		}
	}
}

// TestPromise13EveryInterleaving has all orders of the steps of few clients.
func TestPromise13EveryInterleaving(t *testing.T) {
	b := startBase()
	start, ends := see(t, b), 0
	for i, list := range crossing()[:5] {
		var run func(w impl.World)
		run = func(w impl.World) {
			if activePick(w) == 0 {
				ends++
				checkSeen(t, fmt.Sprint("crossing ", i), start, w.Base)
			}
			for who := range w.Clients {
				if x := stepWorld(w, who+1); x.code == 0 {
					wantGrows(t, fmt.Sprint("a step of crossing ", i), w.Base, x.w.Base, true)
					run(x.w)
				}
			}
		}
		run(newWorld(b, list))
	}
	if ends < 1000 {
		t.Error("runs", ends)
	}
}

// TestPromise13AnyPicks keeps what the snapshots of all branches showed in the
// course of runs, and reads them again at the end.
func TestPromise13AnyPicks(t *testing.T) {
	changed := 0
	for seed := range 100 {
		r := rand.New(rand.NewPCG(uint64(seed), 14))
		w := randomWorld(r)
		if seed%3 == 0 {
			w = busyWorld(r)
		}
		kept := []seen{see(t, w.Base)}
		for range 8 {
			w = runPicks(w, randomPicks(r, r.IntN(20), len(w.Clients))).w
			kept = append(kept, see(t, w.Base))
		}
		w = finishWorld(w).w
		for i, x := range kept {
			checkSeen(t, fmt.Sprint("run ", seed, " from ", i), x, w.Base)
			if !sameBases(x.b, w.Base) {
				changed++
			}
			for j, y := range kept[i:] {
				checkSeen(t, fmt.Sprint("run ", seed, " from ", i, ", ", j, " later"), x, y.b)
			}
		}
	}
	if changed < 300 {
		t.Error("repositories that have grown", changed)
	}
}

// TestPromise13SnapOfDeletedBranch reads a snapshot while its branch moves, is
// gone, and is created again with another head.
func TestPromise13SnapOfDeletedBranch(t *testing.T) {
	b := base([]impl.Commit{commit(entries(entry("a", 1), entry("b", 2), entry("c", 3)))}, live("dev", 1, 1))
	x := see(t, b)
	for _, o := range []impl.Op{opCommit("dev", 0, gone("a"), set("b", 9), set("d", 4)), opDelete("dev"), opCreate("dev", 2), opCommit("dev", 0, gone("c")), opDelete("dev")} {
		next := doOp(b, o)
		if next.code != 0 || next.r.Code != 0 {
			t.Fatal("DoOp", o, next)
		}
		b = next.b
		checkSeen(t, fmt.Sprint("after ", o), x, b)
	}
	d, code := impl.DiffSnaps(b, x.snaps[0], snap("dev", 3))
	wantEdits(t, "DiffSnaps", d, code, []impl.Edit{gone("a"), set("b", 9), gone("c"), set("d", 4)}, 0)
}
