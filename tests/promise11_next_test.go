package tests

import (
	"fmt"
	"math"
	"math/rand/v2"
	"slices"
	"testing"

	"loop.example/g00737/impl"
)

func wantGap(t *testing.T, what string, w impl.World, want int) {
	t.Helper()
	if n, code := impl.LongestGap(w); code != 0 || n != want {
		t.Fatal("LongestGap", what, n, impl.CodeWord(code), "not", want)
	}
}

func wantNext(t *testing.T, what string, w impl.World, who int, want string) {
	t.Helper()
	if word, code := impl.NextOf(w, who); code != 0 || word != want {
		t.Fatal("NextOf", what, who, word, impl.CodeWord(code), "not", want)
	}
}

func wantCanEnd(t *testing.T, what string, w impl.World, who, steps int, want bool, wantCode int) {
	t.Helper()
	if yes, code := impl.CanEnd(w, who, steps); code != wantCode || yes != want {
		t.Fatal("CanEnd", what, who, steps, yes, impl.CodeWord(code), "not", want, impl.CodeWord(wantCode))
	}
}

// checkNext compares what comes next in a valid world with a model.
func checkNext(t *testing.T, what string, w impl.World) {
	t.Helper()
	wantGap(t, what, w, modelGap(w))
	full := w.Steps > impl.MaxValue-impl.MaxPicks
	for i, c := range w.Clients {
		wantNext(t, what, w, i+1, modelNextOf(c))
		done, enough := c.Done == len(c.Wishes), 0
		if !done {
			enough = stepsToEnd(w.Base, c)
		}
		for _, steps := range someSteps(enough) {
			code := first(steps < 0 || steps > 200, impl.ErrRange, full, impl.ErrFull, done, impl.ErrDone)
			wantCanEnd(t, what, w, i+1, steps, code == 0 && steps >= enough, code)
		}
	}
	wantNobody(t, what, w, impl.ErrNone)
}

// wantNobody is for numbers of clients that do not exist, whatever the steps.
func wantNobody(t *testing.T, what string, w impl.World, wantCode int, list ...int) {
	t.Helper()
	for _, who := range append(list, 0, len(w.Clients)+1, -len(w.Clients)) {
		if word, code := impl.NextOf(w, who); code != wantCode || word != "" {
			t.Fatal("NextOf", what, who, word, code)
		}
		for _, steps := range []int{-1, 0, 5, impl.MaxPicks + 1} {
			wantCanEnd(t, what, w, who, steps, false, wantCode)
		}
	}
}

// wantNoNext is for worlds that are not valid.
func wantNoNext(t *testing.T, what string, w impl.World) {
	t.Helper()
	if n, code := impl.LongestGap(w); code != impl.ErrBad || n != 0 {
		t.Fatal("LongestGap", what, n, code)
	}
	wantNobody(t, what, w, impl.ErrBad, 1, 2, 5)
}

func TestPromise11LongestGap(t *testing.T) {
	for i, v := range []struct {
		steps []int
		want  int
	}{
		{nil, 0}, {[]int{1}, 1}, {[]int{7}, 7}, {[]int{impl.MaxValue}, impl.MaxValue},
		{[]int{1, 2, 3, 4}, 1}, {[]int{3, 6, 9}, 3}, {[]int{3, 6, 10}, 4}, {[]int{3, 7, 10}, 4}, {[]int{4, 7, 10}, 4},
		{[]int{2, 9, 10, 17, 18}, 7}, {[]int{1, 2, impl.MaxValue}, impl.MaxValue - 2}, {[]int{impl.MaxValue - 1, impl.MaxValue}, impl.MaxValue - 1},
		{[]int{5, 6}, 5}, {[]int{5, 11}, 6}, {[]int{5, 10}, 5},
	} {
		w := endedAt(v.steps...)
		wantGap(t, fmt.Sprint(i), w, v.want)
		// What was performed behind the last moment does not count.
		wantGap(t, fmt.Sprint(i, " and later steps"), at(w, impl.MaxValue), v.want)
	}
	wantGap(t, "no moments", at(newWorld(startBase(), runWishes()), 99), 0)
}

// TestPromise11NextOf has clients in each Phase with wishes of each Kind.
func TestPromise11NextOf(t *testing.T) {
	b := base(crossed(), crossedRefs()...)
	m := entries(entry("a", 1), entry("b", 1), entry("c", 3))
	for i, v := range []struct {
		c    impl.Client
		want string
	}{
		{impl.Client{}, "done"},
		{at0(wishCreate("x", "main")), "source"},
		{at0(wishCreate("x", "none")), "source"},
		{at0(wishDelete("main")), "act"},
		{at0(wishDelete("none")), "act"},
		{at0(wishCommit("main", set("c", 3))), "look"},
		{at0(wishCommit("none")), "look"},
		{at0(wishMerge("left", "right")), "source"},
		{at0(wishMerge("none", "none")), "source"},
		{at0(wishGet("main", "a")), "act"},
		{at0(wishScan("main")), "act"},
		{at1(wishCreate("x", "main"), 4, 0), "act"},
		{at1(wishCreate("main", "main"), 4, 0), "act"},
		{at1(wishCommit("main", set("c", 3)), 4, 1), "look"},
		{at1(wishCommit("main", set("c", 3)), 4, impl.MaxRetries), "look"},
		{at1(wishMerge("left", "right"), 7, 0), "look"},
		{at1(wishMerge("none", "right"), 7, impl.MaxRetries), "look"},
		{at2(wishCommit("main", set("c", 3)), 4, 4, 3, 0, m), "swap"},
		{at2(wishCommit("main", set("c", 3)), 4, 4, 2, impl.MaxRetries, m), "swap"},
		{fast2(wishMerge("near", "main"), 4, 1, 1, 0), "swap"},
	} {
		what := fmt.Sprint("client ", i)
		wantNext(t, what, world(b, []impl.Client{v.c}), 1, v.want)
		wantNext(t, what+" of two", world(b, []impl.Client{{}, v.c}), 2, v.want)
		checkNext(t, what, world(b, []impl.Client{at0(wishCommit("main")), v.c, {}}))
		if len(v.c.Wishes) > 0 {
			w := world(b, []impl.Client{among(v.c)})
			w.Moments = []impl.Moment{{Client: 1, Wish: 1, Step: 1}, {Client: 1, Wish: 2, Step: 2}}
			wantNext(t, what+" among others", at(w, 2), 1, v.want)
			checkNext(t, what+" among others", at(w, 2))
		}
	}
	for n := range impl.MaxClients + 1 {
		wantNobody(t, fmt.Sprint(n, " clients"), world(b, make([]impl.Client, n)), impl.ErrNone, noPicks()...)
	}
	for n := 1; n <= impl.MaxWishes; n++ {
		w := past(b, slices.Repeat([]ended{did(2, opScan("main"), impl.Result{})}, n)...)
		wantNext(t, "finished", w, 2, "done")
		wantNext(t, "without wishes", w, 1, "done")
		checkNext(t, "finished", w)
	}
}

// TestPromise11NextStep looks at what a step was by what has changed: the words
// tell it before.
func TestPromise11NextStep(t *testing.T) {
	counts := map[string]int{}
	for seed := range 40 {
		r := rand.New(rand.NewPCG(uint64(seed), 20))
		w := busyWorld(r)
		if seed%2 == 0 {
			w = newWorld(startBase(), runWishes(), "main")
		}
		for _, who := range randomPicks(r, 120, 5) {
			if who < 1 || who > len(w.Clients) {
				continue
			}
			word, code := impl.NextOf(w, who)
			x := stepWorld(w, who)
			if (x.code == impl.ErrDone) != (word == "done") || code != 0 {
				t.Fatal("NextOf", word, code, x.code)
			}
			ends := len(x.w.Moments) > len(w.Moments)
			changes := !sameBases(x.w.Base, w.Base)
			before, after := w.Clients[who-1], x.w.Clients[who-1]
			ok := map[string]bool{
				"done":   !ends && !changes,
				"source": !changes && ends != (after.Phase == 1),
				"look":   !changes && ends != (after.Phase == 2),
				"swap":   before.Phase == 2 && ends != (after.Phase == 1 && after.Tries == before.Tries+1),
				"act":    before.Phase < 2 && ends,
			}[word]
			if !ok {
				t.Fatal("not what the step was:", word, before, after)
			}
			counts[fmt.Sprint(word, changes)]++
			w = x.w
		}
	}
	wantCounts(t, counts, map[string][]string{"": {"donefalse", "sourcefalse", "lookfalse", "swapfalse", "swaptrue", "actfalse", "acttrue"}})
}

// TestPromise11CanEnd has the least numbers of steps that are enough.
func TestPromise11CanEnd(t *testing.T) {
	b := base(crossed(), crossedRefs()...)
	m := entries(entry("a", 1), entry("b", 1), entry("c", 3))
	commit3 := wishCommit("main", set("c", 3))
	for i, v := range []struct {
		c      impl.Client
		enough int
	}{
		{at0(wishDelete("main")), 1},
		{at0(wishGet("main", "a")), 1},
		{at0(wishScan("none")), 1},
		{at0(wishCreate("x", "main")), 2},
		{at0(wishCreate("x", "none")), 1},
		{at1(wishCreate("x", "main"), 4, 0), 1},
		{at0(commit3), 2},
		{at0(wishCommit("main")), 1},
		{at0(wishCommit("none", set("c", 3))), 1},
		{at1(commit3, 4, 3), 2},
		{at2(commit3, 4, 4, 3, 3, m), 1},
		{at2(commit3, 4, 4, 2, 3, m), 1},
		{at2(commit3, 4, 4, 2, 2, m), 3},
		{at2(commit3, 4, 4, 2, 0, m), 3},
		{at0(wishMerge("near", "main")), 3},
		{at0(wishMerge("none", "main")), 2},
		{at0(wishMerge("main", "none")), 1},
		{fast2(wishMerge("near", "main"), 4, 1, 1, 0), 3},
	} {
		for _, c := range []impl.Client{v.c, {Wishes: append(slices.Clone(v.c.Wishes), slices.Repeat(wishes(wishScan("main")), 5)...), Phase: v.c.Phase, From: v.c.From, Head: v.c.Head, Version: v.c.Version, Tries: v.c.Tries, Fast: v.c.Fast, Map: v.c.Map}} {
			w := world(b, []impl.Client{at0(commit3), c})
			for _, steps := range []int{0, v.enough - 1, v.enough, v.enough + 1, 5, impl.MaxPicks} {
				wantCanEnd(t, fmt.Sprint("client ", i), w, 2, steps, steps >= v.enough, 0)
			}
			checkNext(t, fmt.Sprint("client ", i), w)
		}
	}
}

func TestPromise11CodesOfCanEnd(t *testing.T) {
	b := startBase()
	w := newWorld(b, lists(nil, wishes(wishScan("main"))), "main")
	for i, v := range []struct {
		steps, who, n int
		want          bool
		code          int
	}{
		{0, 2, 0, false, impl.OK}, {0, 2, 1, true, impl.OK}, {0, 2, 200, true, impl.OK},
		{0, 2, 201, false, impl.ErrRange}, {0, 2, -1, false, impl.ErrRange}, {0, 2, math.MinInt, false, impl.ErrRange}, {0, 2, math.MaxInt, false, impl.ErrRange},
		{0, 1, 0, false, impl.ErrDone}, {0, 1, 200, false, impl.ErrDone}, {0, 1, 201, false, impl.ErrRange}, {0, 1, -1, false, impl.ErrRange},
		{0, 0, 201, false, impl.ErrNone}, {0, 3, 0, false, impl.ErrNone}, {0, 3, -1, false, impl.ErrNone}, {0, -1, 1, false, impl.ErrNone},
		{impl.MaxValue - 200, 2, 1, true, impl.OK}, {impl.MaxValue - 200, 2, 0, false, impl.OK}, {impl.MaxValue - 200, 1, 0, false, impl.ErrDone},
		{impl.MaxValue - 199, 2, 1, false, impl.ErrFull}, {impl.MaxValue - 199, 2, 0, false, impl.ErrFull}, {impl.MaxValue, 2, 200, false, impl.ErrFull},
		{impl.MaxValue - 199, 1, 0, false, impl.ErrFull}, {impl.MaxValue, 1, 1, false, impl.ErrFull},
		{impl.MaxValue, 1, 201, false, impl.ErrRange}, {impl.MaxValue, 2, -1, false, impl.ErrRange}, {impl.MaxValue, 3, -1, false, impl.ErrNone},
		{impl.MaxValue + 1, 2, 1, false, impl.ErrBad}, {-1, 3, 1, false, impl.ErrBad}, {-1, 2, 201, false, impl.ErrBad},
	} {
		wantCanEnd(t, fmt.Sprint(i), at(w, v.steps), v.who, v.n, v.want, v.code)
	}
}

// TestPromise11FromAnywhere has clients in every Phase with any Tries, one of
// which goes on alone.
func TestPromise11FromAnywhere(t *testing.T) {
	counts := map[string]int{}
	for i, c := range validBases() {
		for _, wish := range fewWishes()[i%2:] {
			for j, x := range midway(c.b, wish) {
				if j%31 != i%31 && j > 2 {
					continue
				}
				w := world(c.b, []impl.Client{x, at0(wish)})
				checkNext(t, c.name, w)
				wantCanEnd(t, c.name, w, 1, 5, true, 0)
				counts[fmt.Sprint(modelNextOf(x), " ", wish.Kind, " ", stepsToEnd(c.b, x))]++
			}
		}
	}
	wantCounts(t, counts, map[string][]string{
		"source": {"1 1", "1 2", "4 1", "4 2", "4 3"}, "look": {"3 1", "3 2", "4 1", "4 2"},
		"swap": {"3 1", "3 2", "3 3", "4 1", "4 2", "4 3"}, "act": {"1 1", "2 1", "5 1", "6 1"},
	})
}

// TestPromise11NextInEveryWorld breaks each field of a world alone and compares
// with a model.
func TestPromise11NextInEveryWorld(t *testing.T) {
	counts := map[string]int{}
	for i, c := range append(broken(crossedWorld()), validWorlds()...) {
		what, valid := fmt.Sprint(i, " ", c.name), modelWorldValid(c.w)
		counts[fmt.Sprint(valid)]++
		if !valid {
			wantNoNext(t, what, c.w)
		} else if i%3 == 0 {
			checkNext(t, what, c.w)
		}
	}
	wantCounts(t, counts, map[string][]string{"": {"true", "false"}})
	for _, c := range baseCases() {
		if c.bad {
			wantNoNext(t, c.name, impl.World{Base: c.b})
			wantNoNext(t, c.name, world(c.b, []impl.Client{at0(wishScan("main"))}))
		}
	}
	for i, x := range badWishes() {
		wantNoNext(t, fmt.Sprint("wish ", i), world(startBase(), []impl.Client{at0(wishScan("main")), at0(x)}))
	}
}

// TestPromise11EndWithinFive stops runs anywhere: whoever goes on alone ends a
// wish within five steps, and alone to the end no gap is longer.
func TestPromise11EndWithinFive(t *testing.T) {
	retries := 0
	for seed := range 60 {
		r := rand.New(rand.NewPCG(uint64(seed), 20))
		w := busyWorld(r)
		if seed%3 == 0 {
			w = randomWorld(r)
		}
		w = runPicks(w, randomPicks(r, r.IntN(impl.MaxPicks), len(w.Clients))).w
		checkNext(t, fmt.Sprint("run ", seed), w)
		for i, c := range w.Clients {
			if c.Done < len(c.Wishes) {
				wantCanEnd(t, fmt.Sprint("run ", seed), w, i+1, 5, true, 0)
			}
		}
		x, _ := impl.TallyOf(finishWorld(w).w)
		retries += x.GaveUp
		alone := finishWorld(newWorld(w.Base, lists(randomClient(r).Wishes))).w
		if n, code := impl.LongestGap(alone); code != 0 || n > 5 {
			t.Fatal("LongestGap", n, code)
		}
		checkNext(t, fmt.Sprint("alone after run ", seed), alone)
	}
	if retries < 5 {
		t.Error("clients that gave up", retries)
	}
}

// TestPromise11GivesUpNext overtakes a client until its next swap gives up:
// until then three steps are enough, and then one is.
func TestPromise11GivesUpNext(t *testing.T) {
	w := newWorld(startBase(), lists(wishes(wishCommit("main", set("s", 1)), wishScan("main")), overtakers()[0]))
	for tries := range impl.MaxRetries + 1 {
		what := fmt.Sprint("overtaken ", tries, " times")
		wantNext(t, what, w, 1, "look")
		wantCanEnd(t, what, w, 1, 1, false, 0)
		wantCanEnd(t, what, w, 1, 2, true, 0)
		w = stepWorld(w, 1).w
		wantNext(t, what, w, 1, "swap")
		wantCanEnd(t, what, w, 1, 1, true, 0)
		w, _ = endWish(t, w, 2)
		wantNext(t, what, w, 1, "swap")
		last := tries == impl.MaxRetries
		for steps, want := range []bool{false, last, last, true, true} {
			wantCanEnd(t, what, w, 1, steps, want, 0)
		}
		w = stepWorld(w, 1).w
	}
	wantTally(t, "given up", w, impl.Tally{Ended: 5, Good: 4, GaveUp: 1})
	wantNext(t, "the next wish", w, 1, "act")
	wantEarned(t, "given up", w, true)
}
