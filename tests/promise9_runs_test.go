package tests

import (
	"fmt"
	"math/rand/v2"
	"slices"
	"testing"

	"loop.example/g00737/impl"
)

// TestPromise9Steps has a step that ends no wish, one that ends a wish without
// an operation, and ones that end a wish with one.
func TestPromise9Steps(t *testing.T) {
	b := startBase()
	commits, scans := wishCommit("main", set("b", 5)), wishScan("main")
	w := newWorld(b, lists(wishes(commits, scans), wishes(wishCreate("x", "none"), scans)), "main", "x")
	looked := cloned(w)
	looked.Clients[0] = impl.Client{Wishes: w.Clients[0].Wishes, Phase: 2, From: 1, Head: 1, Version: 1, Map: entries(entry("a", 1), entry("b", 5))}
	looked.Steps = 1
	wantRan(t, "a look", stepWorld(w, 1), ran{w: looked})

	gaveUp := cloned(looked)
	gaveUp.Clients[1].Done, gaveUp.Steps = 1, 2
	gaveUp.Moments = []impl.Moment{{Client: 2, Wish: 1, Step: 2, Result: codeOnly(impl.ErrName)}}
	wantRan(t, "no Source", stepWorld(looked, 2), ran{w: gaveUp})

	committed := cloned(gaveUp)
	committed.Base = doOp(b, opCommit("main", 1, set("b", 5))).b
	committed.Clients[0], committed.Steps = impl.Client{Wishes: w.Clients[0].Wishes, Done: 1}, 3
	committed.Watches[0] = watch("main", 2, ev(2, 3))
	committed.Moments = append(committed.Moments, impl.Moment{Client: 1, Wish: 1, Step: 3, Op: opCommit("main", 1, set("b", 5)), Result: impl.Result{Commit: 3}})
	wantRan(t, "a commit", stepWorld(gaveUp, 1), ran{w: committed})

	scanned := cloned(committed)
	scanned.Clients[1].Done, scanned.Steps = 2, 4
	scanned.Moments = append(scanned.Moments, impl.Moment{Client: 2, Wish: 2, Step: 4, Op: opScan("main"), Result: impl.Result{Commit: 3, Map: entries(entry("a", 1), entry("b", 5))}})
	wantRan(t, "a scan", stepWorld(committed, 2), ran{w: scanned})
	wantRan(t, "a client that has finished", stepWorld(scanned, 2), ran{w: scanned, code: impl.ErrDone})

	last := cloned(scanned)
	last.Clients[0].Done, last.Steps = 2, 5
	last.Moments = append(last.Moments, impl.Moment{Client: 1, Wish: 2, Step: 5, Op: opScan("main"), Result: impl.Result{Commit: 3, Map: entries(entry("a", 1), entry("b", 5))}})
	wantRan(t, "all of it", runPicks(w, []int{2 - 1, 2, 1, 2, 2, 0, 1, 1, 3}), ran{w: last, skipped: 4})
	if impl.AllDone(scanned) || !impl.AllDone(last) {
		t.Error("AllDone")
	}
}

// TestPromise9LaterSteps has moments with Steps that skipped and eventless
// steps lie between.
func TestPromise9LaterSteps(t *testing.T) {
	w := newWorld(startBase(), lists(wishes(wishMerge("main", "dev")), wishes(wishMerge("dev", "main"))))
	x := runPicks(w, []int{1, 2, 0, 1, 2, 2, 9, 1, 1, 2})
	wantRan(t, "merges", x, modelPicks(w, []int{1, 2, 1, 2, 1}).withSkipped(5))
	list := []string{}
	for _, m := range x.w.Moments {
		list = append(list, fmt.Sprint(m.Client, m.Step, m.Op.Kind, " ", impl.CodeWord(m.Result.Code)))
	}
	if fmt.Sprint(list) != "[2 4 4 same 1 5 4 ok]" {
		t.Error("moments", list)
	}
}

func (x ran) withSkipped(n int) ran {
	x.skipped = n
	return x
}

// TestPromise9OvertakenInTurns has a client that is overtaken until it gives
// up, and goes on with its next wish.
func TestPromise9OvertakenInTurns(t *testing.T) {
	fast := slices.Repeat(wishes(wishCommit("main", set("o", 1)), wishCommit("main", set("o", 2))), 3)
	w := newWorld(startBase(), lists(wishes(wishCommit("main", set("s", 1)), wishGet("main", "o")), fast), "main")
	picks := []int{1}
	for range impl.MaxRetries {
		picks = append(picks, 2, 2, 1, 1)
	}
	picks = append(picks, 2, 2, 1, 1)
	x := runPicks(w, picks)
	wantRan(t, "overtaken", x, modelPicks(w, picks))
	gaveUp, got := x.w.Moments[4], x.w.Moments[5]
	if !sameMoments(gaveUp, impl.Moment{Client: 1, Wish: 1, Step: 16, Result: codeOnly(impl.ErrRetries)}) {
		t.Error("the moment of giving up", gaveUp)
	}
	if !sameMoments(got, impl.Moment{Client: 1, Wish: 2, Step: 17, Op: opGet("main", "o"), Result: impl.Result{Commit: 6, Value: 2}}) {
		t.Error("the next wish", got)
	}
	// The fifth change found four pending events.
	x = runPicks(x.w, []int{2, 2})
	if q := x.w.Watches[0].Queue; !slices.Equal(q, events(lagged(6, 7))) {
		t.Error("queue", q)
	}
}

// TestPromise9WatchesInRuns has several watches of one name, and one of a
// branch that is created, deleted and created again.
func TestPromise9WatchesInRuns(t *testing.T) {
	b := base(line(3), live("main", 3, 7), deleted("old", 4))
	cycle := wishes(wishCreate("x", "main"), wishDelete("x"), wishCreate("old", "main"), wishDelete("old"), wishCreate("x", "main"), wishCommit("x", set("n", 1)))
	w := newWorld(b, lists(cycle), "x", "x", "old")
	x := finishWorld(w)
	want := modelFinish(w)
	wantRan(t, "cycle", x, want)
	created := watch("x", 4, ev(1, 3), ev(2, 0), ev(3, 3), ev(4, 4))
	for i, v := range []impl.Watch{created, created, watch("old", 6, ev(5, 3), ev(6, 0))} {
		if !sameWatches(x.w.Watches[i], v) {
			t.Error("watch", i, x.w.Watches[i])
		}
	}
	// One of two watches was read, so that only the other one loses events.
	next := cloned(x.w)
	next.Watches[0].Queue = next.Watches[0].Queue[2:]
	next.Clients = append(next.Clients, at0(wishDelete("x")))
	x = stepWorld(next, 2)
	if x.code != 0 || !sameWatches(x.w.Watches[0], watch("x", 5, ev(3, 3), ev(4, 4), ev(5, 0))) || !sameWatches(x.w.Watches[1], watch("x", 5, lagged(5, 0))) || !sameWatches(x.w.Watches[2], next.Watches[2]) {
		t.Error("watches after a read", x.code, x.w.Watches)
	}
}

// TestPromise9NoEvents has steps that change no reference.
func TestPromise9NoEvents(t *testing.T) {
	b := base(crossed(), crossedRefs()...)
	w := newWorld(b, lists(wishes(wishGet("main", "a"), wishScan("none"), wishCreate("main", "dev"), wishDelete("top"), wishCommit("main"), wishMerge("main", "main"))), "main", "top", "none")
	x := finishWorld(w)
	if x.code != 0 || len(x.w.Moments) != 6 || !sameBases(x.w.Base, b) || !slices.EqualFunc(x.w.Watches, w.Watches, sameWatches) {
		t.Error("an event without a change", x)
	}
}

// everyPicks runs over all lists of up to n of these picks.
func everyPicks(n int, choices []int, run func(picks []int)) {
	var more func(picks []int)
	more = func(picks []int) {
		run(picks)
		if len(picks) == n {
			return
		}
		for _, who := range choices {
			more(append(slices.Clone(picks), who))
		}
	}
	more(nil)
}

// checkPicks holds for every run: it is the same in two parts and step by
// step, and what it skips changes nothing.
func checkPicks(t *testing.T, w impl.World, picks []int, cuts ...int) impl.World {
	t.Helper()
	whole := runPicks(w, picks)
	if whole.code != 0 || !impl.WorldOK(whole.w) || whole.w.Steps-w.Steps+whole.skipped != len(picks) {
		t.Fatal("not valid", picks, whole)
	}
	for _, cut := range cuts {
		one := runPicks(w, picks[:cut])
		two := runPicks(one.w, picks[cut:])
		wantRan(t, fmt.Sprint("cut at ", cut, " of ", picks), two.withSkipped(one.skipped+two.skipped), whole)
	}
	steps, taken := ran{w: w}, []int{}
	for _, who := range picks {
		x := stepWorld(steps.w, who)
		switch x.code {
		case impl.OK:
			taken = append(taken, who)
		case impl.ErrNone, impl.ErrDone:
			steps.skipped++
			wantRan(t, "a skipped step", x, ran{w: steps.w, code: x.code})
		default:
			t.Fatal("StepWorld", x.code)
		}
		steps.w = x.w
	}
	wantRan(t, fmt.Sprint("step by step ", picks), steps, whole)
	wantRan(t, fmt.Sprint("the picks that were not skipped ", taken), runPicks(w, taken), whole.withSkipped(0))
	return whole.w
}

// TestPromise9EveryPicks has all short runs of clients that share a branch.
func TestPromise9EveryPicks(t *testing.T) {
	w := newWorld(startBase(), lists(
		wishes(wishCommit("main", set("b", 1)), wishScan("main")), wishes(wishMerge("main", "dev")), wishes(wishDelete("main")),
	), "main", "dev")
	everyPicks(5, []int{0, 1, 2, 3}, func(picks []int) {
		wantRan(t, fmt.Sprint(picks), runPicks(w, picks), modelPicks(w, picks))
		checkPicks(t, w, picks, len(picks)/2)
	})
}

// TestPromise9EveryCut has two parts of every length.
func TestPromise9EveryCut(t *testing.T) {
	r := rand.New(rand.NewPCG(9, 1))
	for range 5 {
		w, picks := newWorld(startBase(), runWishes(), "main", "x", "dev"), randomPicks(r, 60, 5)
		cuts := []int{}
		for i := range len(picks) + 1 {
			cuts = append(cuts, i)
		}
		checkPicks(t, w, picks, cuts...)
	}
}

// TestPromise9Skipped puts picks that name no active client everywhere.
func TestPromise9Skipped(t *testing.T) {
	w := newWorld(startBase(), runWishes(), "main", "dev")
	r := rand.New(rand.NewPCG(9, 2))
	picks := randomPicks(r, 100, 5)
	want := modelPicks(w, picks)
	for i := range len(picks) + 1 {
		idle := append(noPicks(), 4)
		for who, c := range modelPicks(w, picks[:i]).w.Clients {
			if c.Done == len(c.Wishes) {
				idle = append(idle, who+1)
			}
		}
		more := slices.Concat(picks[:i], idle, picks[i:])
		wantRan(t, fmt.Sprint("skips at ", i), runPicks(w, more), want.withSkipped(want.skipped+len(idle)))
	}
	all := slices.Repeat(noPicks(), impl.MaxPicks/len(noPicks()))
	wantRan(t, "nothing but skips", runPicks(w, all), ran{w: w, skipped: len(all)})
	wantRan(t, "no picks", runPicks(w, nil), ran{w: w})
	wantRan(t, "no picks, empty", runPicks(w, []int{}), ran{w: w})
}

// TestPromise9NoClients has worlds in which every pick is skipped.
func TestPromise9NoClients(t *testing.T) {
	for _, w := range []impl.World{world(startBase(), nil, "main"), world(startBase(), make([]impl.Client, 5)), modelFinish(crossedWorld()).w} {
		wantRan(t, "RunPicks", runPicks(w, []int{1, 2, 3, 4, 5, 0, -1}), ran{w: w, skipped: 7})
		wantRan(t, "FinishWorld", finishWorld(w), ran{w: w})
		if !impl.AllDone(w) {
			t.Error("AllDone")
		}
	}
}

// checkFinish holds for every world in which there is room for a run.
func checkFinish(t *testing.T, w impl.World) {
	t.Helper()
	x, wanted, n := finishWorld(w), 0, len(w.Moments)
	for _, c := range w.Clients {
		wanted += len(c.Wishes)
	}
	wantRan(t, "FinishWorld", x, modelFinish(w))
	if !impl.AllDone(x.w) || len(x.w.Moments) != wanted || x.w.Steps-w.Steps > impl.MaxPicks {
		t.Fatal("something is left", w, x)
	}
	if x.w.Steps <= impl.MaxValue-impl.MaxPicks {
		wantRan(t, "FinishWorld again", finishWorld(x.w), x)
	}
	wantRan(t, "one client after another", runPicks(w, oneAfterAnother(len(w.Clients))).withSkipped(0), x)
	byClient := func(a, b impl.Moment) int { return a.Client - b.Client }
	if !slices.EqualFunc(x.w.Moments[:n], w.Moments, sameMoments) || !slices.IsSortedFunc(x.w.Moments[n:], byClient) {
		t.Fatal("not one client after another", x.w.Moments)
	}
	for _, who := range []int{0, 1, 5, 6} {
		if code := stepWorld(x.w, who).code; code != first(who < 1 || who > len(w.Clients), impl.ErrNone, true, impl.ErrDone) {
			t.Fatal("StepWorld after FinishWorld", who, code)
		}
	}
}

func TestPromise9Finish(t *testing.T) {
	for _, c := range validWorlds() {
		if c.w.Steps <= impl.MaxValue-impl.MaxPicks {
			checkFinish(t, c.w)
		}
	}
}

// TestPromise9FinishMidway begins with clients in every Phase, also with ones
// that were overtaken or have used up their tries.
func TestPromise9FinishMidway(t *testing.T) {
	r := rand.New(rand.NewPCG(9, 3))
	for i, c := range validBases() {
		clients := []impl.Client{}
		for _, w := range fewWishes()[i%2:] {
			for j, x := range midway(c.b, w) {
				if j%13 == i%13 {
					x.Wishes = append(x.Wishes, randomClient(r).Wishes[0])
					clients = append(clients, x)
				}
			}
		}
		for part := range slices.Chunk(clients, impl.MaxClients) {
			w := world(c.b, part, "main", "dev", "old")
			checkFinish(t, w)
			checkPicks(t, w, randomPicks(r, 12, len(part)), 1, 5, 11)
		}
	}
}

// randomWorld has any number of clients, wishes and watches.
func randomWorld(r *rand.Rand) impl.World {
	b, _ := impl.NewBase(numbered(r.IntN(impl.MaxKeys + 1)))
	if r.IntN(4) == 0 {
		b = validBases()[r.IntN(len(validBases()))].b
	}
	wanted, watched := lists(), names()
	for range r.IntN(impl.MaxClients + 1) {
		wanted = append(wanted, randomClient(r).Wishes)
	}
	for range r.IntN(impl.MaxWatches + 1) {
		watched = append(watched, names("main", "dev", "x", "never")[r.IntN(4)])
	}
	return newWorld(b, wanted, watched...)
}

func TestPromise9RandomRuns(t *testing.T) {
	counts := map[string]int{}
	for seed := range 150 {
		r := rand.New(rand.NewPCG(uint64(seed), 9))
		w := randomWorld(r)
		picks := randomPicks(r, impl.MaxPicks, len(w.Clients))
		wantRan(t, fmt.Sprint("run ", seed), runPicks(w, picks), modelPicks(w, picks))
		x := checkPicks(t, w, picks, r.IntN(30), r.IntN(impl.MaxPicks+1))
		checkFinish(t, x)
		checkFinish(t, modelPicks(w, picks[:r.IntN(30)]).w)
		for _, m := range x.Moments {
			counts[impl.CodeWord(m.Result.Code)]++
		}
		for _, v := range x.Watches {
			counts["events"] += len(v.Queue)
			if len(v.Queue) > 0 && v.Queue[0].Lag {
				counts["lags"]++
			}
		}
	}
	for _, key := range names("ok", "name", "retries", "conflict", "same", "exists", "none", "full", "events", "lags") {
		if counts[key] == 0 {
			t.Error("not tested:", key, counts)
		}
	}
}
