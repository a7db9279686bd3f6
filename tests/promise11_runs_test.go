package tests

import (
	"fmt"
	"math/rand/v2"
	"slices"
	"testing"

	"loop.example/g00737/impl"
)

// checkEarned holds for every world that a run of a new world leads to: who
// gives up was overtaken more often than it retried.
func checkEarned(t *testing.T, what string, w impl.World) int {
	t.Helper()
	wantEarned(t, what, w, true)
	retries, last := 0, map[int]int{}
	for _, m := range w.Moments {
		if m.Result.Code == impl.ErrRetries {
			retries++
			name := w.Clients[m.Client-1].Wishes[m.Wish-1].Name
			if n, code := impl.ChangesOf(w, name, last[m.Client], m.Step); code != 0 || n <= impl.MaxRetries {
				t.Fatal("overtaken", n, "times", what, m)
			}
		}
		last[m.Client] = m.Step
	}
	return retries
}

// overtakers are changes of main in as many ways as there are.
func overtakers() [][]impl.Wish {
	return lists(
		wishes(wishCommit("main", set("o", 1)), wishCommit("main", set("o", 2)), wishCommit("main", set("o", 3)), wishCommit("main", set("o", 4)), wishCommit("main", set("o", 5)), wishCommit("main", set("o", 6))),
		wishes(wishMerge("main", "dev"), wishCommit("main", gone("e")), wishCommit("main", set("a", 1), set("o", 9)), wishCommit("main", set("p", 1)), wishCommit("main", gone("p")), wishCommit("main", set("p", 2))),
	)
}

// endWish performs steps of one client alone until its wish ends.
func endWish(t *testing.T, w impl.World, who int) (impl.World, int) {
	t.Helper()
	for n := 1; n <= 5; n++ {
		x := stepWorld(w, who)
		if x.code != 0 {
			t.Fatal("StepWorld", who, x.code)
		}
		if w = x.w; len(w.Moments) > 0 && w.Moments[len(w.Moments)-1].Step == w.Steps {
			return w, n
		}
	}
	t.Fatal("not ended within five steps", who, w)
	return w, 0
}

// overtake lets the first client end all its wishes. The second one ends a wish
// before each of its swaps, n times.
func overtake(t *testing.T, w impl.World, n int) impl.World {
	t.Helper()
	for w.Clients[0].Done < len(w.Clients[0].Wishes) {
		if w.Clients[0].Phase == 2 && n > 0 {
			w, _ = endWish(t, w, 2)
			n--
		}
		w = stepWorld(w, 1).w
	}
	return w
}

// TestPromise11OvertakenInTurns overtakes a client before its swaps. It gives
// up if that happens more than MaxRetries times, and not before.
func TestPromise11OvertakenInTurns(t *testing.T) {
	store := append(startBase().Store, commit(entries(entry("a", 1), entry("l", 1)), 1))
	b := base(store, live("main", 1, 1), live("dev", 2, 2), live("left", 3, 1))
	mine := wishCommit("main", set("s", 1))
	for i, others := range overtakers() {
		for _, slow := range [][]impl.Wish{{mine}, {wishScan("main"), mine, wishScan("dev")}, {wishMerge("main", "left")}} {
			number := 1 + slices.IndexFunc(slow, func(w impl.Wish) bool { return w.Kind != impl.OpScan })
			for n := range impl.MaxRetries + 3 {
				what := fmt.Sprint("overtaken ", n, " times by ", i)
				w := overtake(t, newWorld(b, lists(slow, others)), n)
				m := modelMoments(w, 1)[number-1]
				code, gaveUp := impl.OK, 0
				if n > impl.MaxRetries {
					code, gaveUp = impl.ErrRetries, 1
				}
				if m.Result.Code != code || (m.Op.Kind == 0) != (gaveUp == 1) {
					t.Fatal(what, m)
				}
				wantChanges(t, what, w, "main", 0, m.Step, min(n, impl.MaxRetries+1))
				if checkEarned(t, what, w) != gaveUp {
					t.Fatal("not given up once", what, w)
				}
				checkRun(t, what, b, w)
			}
		}
	}
}

// TestPromise11OtherBranches has many changes of other branches, which do not
// overtake anyone.
func TestPromise11OtherBranches(t *testing.T) {
	others := wishes(wishCommit("dev", set("o", 1)), wishCommit("dev", set("o", 2)), wishCreate("x", "dev"), wishDelete("x"), wishCommit("dev", set("o", 3)), wishScan("main"))
	w := newWorld(startBase(), lists(wishes(wishCommit("main", set("s", 1))), others, others))
	w = stepWorld(w, 1).w
	for range others {
		w, _ = endWish(t, w, 2)
		w, _ = endWish(t, w, 3)
	}
	w = stepWorld(w, 1).w
	if m := w.Moments[len(w.Moments)-1]; m.Client != 1 || m.Result.Code != 0 {
		t.Fatal("a commit that nobody overtook", m)
	}
	wantChanges(t, "before the commit", w, "main", 0, w.Steps, 0)
	wantChanges(t, "with the commit", w, "main", 0, w.Steps+1, 1)
	wantChanges(t, "other branches", w, "dev", 0, w.Steps, 3)
	wantChanges(t, "other branches", w, "x", 0, w.Steps, 2)
	wantEarned(t, "nobody gave up", w, true)
}

// TestPromise11RandomRuns checks that nobody gives up without a reason, to the
// end of a run and from there on one after another.
func TestPromise11RandomRuns(t *testing.T) {
	retries := 0
	for seed := range 200 {
		r := rand.New(rand.NewPCG(uint64(seed), 11))
		w := busyWorld(r)
		if seed%4 == 0 {
			w = randomWorld(r)
		}
		x := runPicks(w, randomPicks(r, impl.MaxPicks, len(w.Clients)))
		checkEarned(t, fmt.Sprint("run ", seed), x.w)
		retries += checkEarned(t, fmt.Sprint("run ", seed, " finished"), finishWorld(x.w).w)
	}
	if retries < 50 {
		t.Error("clients that gave up", retries)
	}
}

// TestPromise11EveryBranchChange counts the changes of each branch in a run by
// the Versions that it got.
func TestPromise11EveryBranchChange(t *testing.T) {
	for seed := range 30 {
		r := rand.New(rand.NewPCG(uint64(seed), 12))
		w := newWorld(startBase(), runWishes(), "main")
		versions := []impl.Base{w.Base}
		for _, who := range randomPicks(r, 120, 5) {
			if x := stepWorld(w, who); x.code == 0 {
				w, versions = x.w, append(versions, x.w.Base)
			}
		}
		for _, name := range names("main", "dev", "x", "y", "none") {
			version := func(step int) int { return findRef(versions[step].Refs, name).ref.Version }
			for range 60 {
				after := r.IntN(len(versions))
				until := after + 1 + r.IntN(len(versions)-after)
				wantChanges(t, fmt.Sprint("run ", seed), w, name, after, until, version(until-1)-version(after))
			}
			wantChanges(t, fmt.Sprint("run ", seed), w, name, -5, len(versions)+5, version(len(versions)-1)-version(0))
		}
	}
}

// TestPromise11AloneFiveSteps stops runs anywhere and leaves one client alone:
// its wish and each later one end within five steps.
func TestPromise11AloneFiveSteps(t *testing.T) {
	counts := map[int]int{}
	for seed := range 60 {
		r := rand.New(rand.NewPCG(uint64(seed), 13))
		w := busyWorld(r)
		if seed%2 == 0 {
			w = randomWorld(r)
		}
		w = runPicks(w, randomPicks(r, r.IntN(80), len(w.Clients))).w
		for i, c := range w.Clients {
			x, n := w, 0
			for range len(c.Wishes) - c.Done {
				x, n = endWish(t, x, i+1)
				counts[n]++
			}
			if code := stepWorld(x, i+1).code; code != impl.ErrDone {
				t.Fatal("StepWorld of a client that has finished", code)
			}
			checkEarned(t, "alone", x)
		}
	}
	for n := 1; n <= 3; n++ {
		if counts[n] == 0 {
			t.Error("not tested: steps", n, counts)
		}
	}
}

// TestPromise11AloneFromAnywhere has clients in every Phase with any Tries.
func TestPromise11AloneFromAnywhere(t *testing.T) {
	most := 0
	for i, c := range validBases() {
		for _, wish := range fewWishes()[i%2:] {
			for j, x := range midway(c.b, wish) {
				if j%3 == i%3 {
					_, n := endWish(t, world(c.b, []impl.Client{x}), 1)
					most = max(most, n)
				}
			}
		}
	}
	if most != 3 {
		t.Error("steps of a wish", most)
	}
}
