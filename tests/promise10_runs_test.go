package tests

import (
	"fmt"
	"math/rand/v2"
	"slices"
	"testing"

	"loop.example/g00737/impl"
)

// checkRun holds for every world that a run of a new world on b leads to.
func checkRun(t *testing.T, what string, b impl.Base, w impl.World) {
	t.Helper()
	wantLinear(t, what, b, w, true)
	wantInOrder(t, what, w, true)
	wantRuns(t, "Replay "+what, replay(b, w.Moments), modelReplay(b, w.Moments))
	ops, code := impl.OrderOf(w)
	results := []impl.Result{}
	for _, m := range w.Moments {
		if m.Op.Kind != 0 {
			results = append(results, m.Result)
		}
	}
	wantRuns(t, "DoOps of OrderOf "+what, doOps(b, ops), runs{b: w.Base, list: results, code: code})
	seen := 0
	for who, c := range w.Clients {
		list, code := impl.MomentsOf(w, who+1)
		if code != 0 || len(list) != c.Done || !slices.EqualFunc(list, modelMoments(w, who+1), sameMoments) {
			t.Fatal("MomentsOf", what, who+1, list, code)
		}
		for i, m := range list {
			// Without an operation nothing but the wish tells what was meant.
			x := c.Wishes[i]
			if m.Wish != i+1 || m.Op.Kind != 0 && (m.Op.Kind != x.Kind || m.Op.Name != x.Name || m.Op.Key != x.Key || !slices.Equal(m.Op.Edits, x.Edits)) {
				t.Fatal("not the operation of the wish", what, m, x)
			}
		}
		seen += len(list)
	}
	if seen != len(w.Moments) {
		t.Fatal("moments of no client", what)
	}
}

// crossing has clients that get in each other's way within few steps.
func crossing() [][][]impl.Wish {
	b1, c1, a5 := wishCommit("main", set("b", 1)), wishCommit("main", set("c", 1)), wishCommit("main", set("a", 5))
	return [][][]impl.Wish{
		lists(wishes(b1, a5), wishes(c1, wishCommit("main", gone("a")))),
		lists(wishes(b1), wishes(wishDelete("main"), wishCreate("main", "dev")), wishes(wishMerge("main", "dev"))),
		lists(wishes(wishMerge("dev", "main"), wishScan("dev")), wishes(wishCommit("dev", set("e", 9)), wishDelete("dev")), wishes(a5)),
		lists(wishes(wishCreate("x", "main"), wishCommit("x", set("d", 4))), wishes(wishCreate("x", "dev"), wishMerge("main", "x")), wishes(wishDelete("x"))),
		lists(wishes(a5), wishes(wishCommit("dev", set("a", 7))), wishes(wishMerge("main", "dev"), wishMerge("dev", "main"))),
		lists(wishes(wishCommit("main")), wishes(wishMerge("main", "main"), wishMerge("dev", "main")), wishes(wishMerge("main", "dev"), wishGet("none", "a"))),
	}
}

// TestPromise10EveryInterleaving runs over all orders of the steps of few
// clients, to their ends and after every step.
func TestPromise10EveryInterleaving(t *testing.T) {
	b, counts := startBase(), map[string]int{}
	for i, list := range crossing() {
		var run func(w impl.World)
		run = func(w impl.World) {
			checkRun(t, fmt.Sprint("crossing ", i), b, w)
			if activePick(w) == 0 {
				counts["runs"]++
				for _, m := range w.Moments {
					counts[fmt.Sprint(m.Op.Kind, " ", impl.CodeWord(m.Result.Code))]++
				}
			}
			for who := range w.Clients {
				if x := stepWorld(w, who+1); x.code == 0 {
					run(x.w)
				}
			}
		}
		run(newWorld(b, list, "main"))
	}
	for _, key := range names("0 name", "1 ok", "1 exists", "2 ok", "2 name", "3 ok", "3 name", "3 conflict", "3 same", "4 ok", "4 name", "4 same", "4 conflict", "5 name", "6 ok", "6 name") {
		if counts[key] == 0 {
			t.Error("not tested:", key, counts)
		}
	}
	if counts["runs"] < 2000 {
		t.Error("runs", counts["runs"])
	}
}

// TestPromise10EveryStep checks the world after each step of long runs, and
// that the moments so far lead to the repository as it was then.
func TestPromise10EveryStep(t *testing.T) {
	r := rand.New(rand.NewPCG(10, 1))
	for range 8 {
		b, prefixes := startBase(), []runs{{b: startBase()}}
		w := newWorld(b, runWishes(), "main", "x")
		for _, who := range randomPicks(r, 150, 5) {
			x := stepWorld(w, who)
			if x.code != 0 {
				continue
			}
			checkRun(t, fmt.Sprint("step ", x.w.Steps), b, x.w)
			if n := len(x.w.Moments); n > len(w.Moments) {
				list := append(slices.Clone(prefixes[n-1].list), x.w.Moments[n-1].Result)
				prefixes = append(prefixes, runs{b: x.w.Base, list: list})
			} else if !sameBases(x.w.Base, w.Base) {
				t.Fatal("a change without a moment", x.w)
			}
			w = x.w
		}
		for n, want := range prefixes {
			wantRuns(t, fmt.Sprint("Replay of the first ", n), replay(b, w.Moments[:n]), want)
			wantRuns(t, fmt.Sprint("Replay from moment ", n), replay(want.b, w.Moments[n:]).after(want), replay(b, w.Moments))
		}
	}
}

// busyWorld has clients that want to change one branch all the time.
func busyWorld(r *rand.Rand) impl.World {
	list := lists()
	for range impl.MaxClients {
		c := wishes()
		for range impl.MaxWishes {
			x := wishCommit("main", set(numbered(10)[r.IntN(10)].Key, r.IntN(50)))
			switch r.IntN(8) {
			case 0:
				x = wishMerge("main", "dev")
			case 1:
				x = wishCommit("dev", set("a", r.IntN(50)))
			case 2:
				x = wishScan("main")
			}
			c = append(c, x)
		}
		list = append(list, c)
	}
	return newWorld(startBase(), list, "main", "dev")
}

func TestPromise10RandomRuns(t *testing.T) {
	counts := map[string]int{}
	for seed := range 150 {
		r := rand.New(rand.NewPCG(uint64(seed), 10))
		w := randomWorld(r)
		if seed%3 == 0 {
			w = busyWorld(r)
		}
		x := runPicks(w, randomPicks(r, r.IntN(impl.MaxPicks+1), len(w.Clients)))
		y := finishWorld(x.w)
		what := fmt.Sprint("run ", seed)
		checkRun(t, what, w.Base, w)
		checkRun(t, what, w.Base, x.w)
		checkRun(t, what+" finished", w.Base, y.w)
		// It did not begin where it has ended, if anything has changed.
		if y.code != 0 || !impl.AllDone(y.w) || !sameBases(w.Base, y.w.Base) && modelLinear(y.w.Base, y.w) {
			t.Fatal("the end", what, y.code)
		}
		wantLinear(t, what+" from its end", y.w.Base, y.w, modelLinear(y.w.Base, y.w))
		for _, m := range y.w.Moments {
			counts[fmt.Sprint(m.Op.Kind, " ", impl.CodeWord(m.Result.Code))]++
		}
	}
	for _, key := range names("0 name", "0 retries", "1 ok", "2 ok", "3 ok", "3 conflict", "3 full", "3 same", "4 ok", "4 same", "5 ok", "6 ok") {
		if counts[key] == 0 {
			t.Error("not tested:", key, counts)
		}
	}
}

// TestPromise10FromTheMiddle goes on with clients in every Phase, that others
// may have overtaken before the run began: what they see of it is the
// repository that the run begins with.
func TestPromise10FromTheMiddle(t *testing.T) {
	r := rand.New(rand.NewPCG(10, 2))
	for i, c := range validBases() {
		clients := []impl.Client{}
		for _, w := range fewWishes()[i%2:] {
			for j, x := range midway(c.b, w) {
				if j%7 == i%7 {
					clients = append(clients, x)
				}
			}
		}
		for part := range slices.Chunk(clients, impl.MaxClients) {
			w := world(c.b, part)
			x := runPicks(w, randomPicks(r, 12, len(part)))
			checkRun(t, c.name, c.b, x.w)
			checkRun(t, c.name+" finished", c.b, finishWorld(x.w).w)
		}
	}
}

// TestPromise10FullBases has runs that meet the limits of commits and Versions:
// a look does not see them, but the operation does.
func TestPromise10FullBases(t *testing.T) {
	full := 0
	for seed := range 20 {
		r := rand.New(rand.NewPCG(uint64(seed), 11))
		b := base(padded(crossed(), impl.MaxCommits-seed%4), live("main", 4, impl.MaxValue-seed%5), live("dev", 5, impl.MaxValue-3), live("x", 1, 1))
		list := lists()
		for range impl.MaxClients {
			list = append(list, randomClient(r).Wishes)
		}
		x := finishWorld(runPicks(newWorld(b, list, "main", "dev"), randomPicks(r, 60, 5)).w)
		checkRun(t, fmt.Sprint("full run ", seed), b, x.w)
		for _, m := range x.w.Moments {
			if m.Result.Code == impl.ErrFull {
				full++
			}
		}
	}
	if full < 50 {
		t.Error("moments without room", full)
	}
}
