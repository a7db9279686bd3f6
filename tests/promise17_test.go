package tests

import (
	"fmt"
	"math/rand/v2"
	"slices"
	"testing"

	"loop.example/g00737/impl"
)

// checkWhole holds for what a run of a new world leads to, at its end and
// before.
func checkWhole(t *testing.T, what string, start, w impl.World) {
	t.Helper()
	checkRun(t, what, start.Base, w)
	wantGrows(t, what, start.Base, w.Base, true)
	checkTold(t, what, start, w)
	retries := checkEarned(t, what, w)
	x, code := impl.TallyOf(w)
	if code != 0 || x != modelTally(w) || x.GaveUp != retries {
		t.Fatal("TallyOf", what, x, code, retries)
	}
	recovered := wantRecovered(t, what, w.Base)
	wantLinear(t, what+", recovered", wantRecovered(t, what, start.Base), impl.World{Base: recovered, Clients: w.Clients, Watches: w.Watches, Moments: w.Moments, Steps: w.Steps}, true)
}

// runWhole runs a new world to its end, and compares it with a model.
func runWhole(t *testing.T, what string, b impl.Base, wanted [][]impl.Wish, watched []string, picks []int) impl.World {
	t.Helper()
	start, code := impl.NewWorld(b, wanted, watched)
	if code != 0 || len(start.Clients) != len(wanted) || len(start.Watches) != len(watched) {
		t.Fatal("NewWorld", what, code)
	}
	x := runPicks(start, picks)
	wantRan(t, "RunPicks "+what, x, modelPicks(start, picks))
	y := finishWorld(x.w)
	wantRan(t, "FinishWorld "+what, y, modelFinish(x.w))
	checkWhole(t, what, start, x.w)
	checkWhole(t, what+" finished", start, y.w)
	wantGrows(t, what+" from its middle", x.w.Base, y.w.Base, true)
	checkTold(t, what+" from its middle", x.w, y.w)
	count := 0
	for who, list := range wanted {
		wantNext(t, what, y.w, who+1, "done")
		count += len(list)
	}
	if len(y.w.Moments) != count {
		t.Fatal("moments", what, len(y.w.Moments), count)
	}
	wantAnyPicks(t, what, b, wanted, picks, 0)
	return y.w
}

// TestPromise17RandomRuns has any repository, any number of clients and of
// wishes, and any picks.
func TestPromise17RandomRuns(t *testing.T) {
	counts := map[string]int{}
	bases := validBases()
	for seed := range 120 {
		r := rand.New(rand.NewPCG(uint64(seed), 17))
		b := bases[seed%len(bases)].b
		if seed%2 == 0 {
			b, _ = impl.NewBase(numbered(r.IntN(impl.MaxKeys + 1)))
		}
		wanted, watched := lists(), names()
		for range r.IntN(impl.MaxClients + 1) {
			list := randomClient(r).Wishes
			wanted = append(wanted, list[:r.IntN(len(list)+1)])
		}
		if seed%5 == 0 {
			wanted = lists()
			for _, c := range busyWorld(r).Clients {
				wanted = append(wanted, c.Wishes)
			}
		}
		for range r.IntN(impl.MaxWatches + 1) {
			watched = append(watched, names("main", "dev", "x", "never")[r.IntN(4)])
		}
		picks := randomPicks(r, r.IntN(impl.MaxPicks+1), len(wanted))
		w := runWhole(t, fmt.Sprint("run ", seed), b, wanted, watched, picks)
		counts[fmt.Sprint("clients ", len(w.Clients))]++
		counts[fmt.Sprint("watches ", len(w.Watches))]++
		x := modelTally(w)
		counts["good"] += x.Good
		counts["conflicts"] += x.Conflicts
		counts["same"] += x.Same
		counts["gave up"] += x.GaveUp
		counts["other"] += x.Other
		for _, v := range w.Watches {
			if len(v.Queue) > 0 && v.Queue[0].Lag {
				counts["lag"]++
			}
		}
	}
	wantCounts(t, counts, map[string][]string{
		"": {"good", "conflicts", "same", "gave up", "other", "lag"}, "clients": {"0", "1", "2", "3", "4", "5"}, "watches": {"0", "1", "2", "3"},
	})
}

// TestPromise17EveryBeginning has all orders in which clients can begin.
func TestPromise17EveryBeginning(t *testing.T) {
	for i, list := range crossing() {
		everyPicks(4, []int{1, 2, len(list)}, func(picks []int) {
			if len(picks) == 4 {
				runWhole(t, fmt.Sprint("crossing ", i, picks), startBase(), list, names("main", "x"), picks)
			}
		})
	}
}

// TestPromise17NumbersOfClients has clients that all want the same, and picks
// that name no active client.
func TestPromise17NumbersOfClients(t *testing.T) {
	r := rand.New(rand.NewPCG(17, 1))
	for n := range impl.MaxClients + 1 {
		for _, list := range [][]impl.Wish{nil, wishKinds("main", "dev"), wishKinds("x", "main"), overtakers()[1], runWishes()[1]} {
			wanted := slices.Repeat([][]impl.Wish{list}, n)
			for _, picks := range [][]int{nil, noPicks(), {n, 1, n + 1}, slices.Repeat([]int{n}, impl.MaxPicks), randomPicks(r, impl.MaxPicks, n)} {
				w := runWhole(t, fmt.Sprint(n, " clients"), startBase(), wanted, names("main", "dev", "x"), picks)
				if len(w.Moments) != n*len(list) {
					t.Fatal("moments", w.Moments)
				}
			}
		}
	}
}

// TestPromise17Overtaken has picks by which a client gives up and a queue gets
// full.
func TestPromise17Overtaken(t *testing.T) {
	picks := []int{1, 1}
	for range impl.MaxRetries + 1 {
		picks = append(picks, 2, 2, 1, 1)
	}
	mine := wishes(wishScan("main"), wishCommit("main", set("s", 1)), wishCommit("main", set("t", 2)))
	w := runWhole(t, "overtaken", startBase(), lists(mine, overtakers()[0]), names("main", "dev"), picks)
	wantTally(t, "overtaken", w, impl.Tally{Ended: 9, Good: 8, GaveUp: 1})
	wantHeads(t, "overtaken", w, "main", 3, 4, 5, 6, 7, 8, 9)
	if !sameWatches(w.Watches[0], watch("main", 8, lagged(6, 7), ev(7, 8), ev(8, 9))) || !sameWatches(w.Watches[1], watch("dev", 2)) {
		t.Error("watches", w.Watches)
	}
	wantGap(t, "overtaken", w, 4)
	wantChanges(t, "overtaken", w, "main", 1, 18, 4)
}

// TestPromise17NoRun has arguments that no run begins with.
func TestPromise17NoRun(t *testing.T) {
	good := lists(wishes(wishCommit("main", set("a", 2))))
	for i, v := range []struct {
		b     impl.Base
		list  [][]impl.Wish
		picks []int
		code  int
	}{
		{impl.Base{}, good, nil, impl.ErrBad},
		{base(line(1), live("main", 2, 1)), good, nil, impl.ErrBad},
		{startBase(), lists(wishes(impl.Wish{Kind: impl.OpCommit})), nil, impl.ErrBad},
		{startBase(), lists(slices.Repeat(good[0], impl.MaxWishes+1)), nil, impl.ErrBad},
		{startBase(), slices.Repeat(good, impl.MaxClients+1), nil, impl.ErrMany},
		{startBase(), good, make([]int, impl.MaxPicks+1), impl.ErrMany},
	} {
		wantAnyPicks(t, fmt.Sprint("no run ", i), v.b, v.list, v.picks, v.code)
		if w, code := impl.NewWorld(v.b, v.list, nil); len(v.picks) == 0 && (code != v.code || !sameWorlds(w, impl.World{})) {
			t.Error("NewWorld", i, code)
		}
	}
}
