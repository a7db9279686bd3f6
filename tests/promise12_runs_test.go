package tests

import (
	"fmt"
	"math/rand/v2"
	"slices"
	"testing"

	"loop.example/g00737/impl"
)

// checkTold expects that the watches of a world were told of the changes that
// their branches had since an earlier world.
func checkTold(t *testing.T, what string, before, w impl.World) {
	t.Helper()
	for i, x := range before.Watches {
		earlier, _ := impl.HeadsOf(before, x.Name)
		heads, code := impl.HeadsOf(w, x.Name)
		if code != 0 || len(heads) < len(earlier) || !slices.Equal(heads, modelHeads(w, x.Name)) {
			t.Fatal("HeadsOf", what, x.Name, heads, code)
		}
		since := heads[len(earlier):]
		if got, want := w.Watches[i], told(x, since...); !sameWatches(got, want) {
			t.Fatal("the watch", what, got, "not", want)
		}
		checkRef(t, what, before, w, x.Name, since)
	}
}

// checkRef expects that a branch is where its changes led to.
func checkRef(t *testing.T, what string, before, w impl.World, name string, heads []int) {
	t.Helper()
	r, last := findRef(w.Base.Refs, name).ref, findRef(before.Base.Refs, name).ref
	if len(heads) > 0 {
		last = impl.Ref{Name: name, Head: heads[len(heads)-1], Version: last.Version + len(heads)}
		last.Gone = last.Head == 0
	}
	if r != last {
		t.Fatal("the branch", what, r, "not", last)
	}
}

// TestPromise12EveryInterleaving runs over all orders of the steps of few
// clients.
func TestPromise12EveryInterleaving(t *testing.T) {
	counts := map[string]int{}
	for i, list := range crossing() {
		start := newWorld(startBase(), list, "main", "dev", "x")
		var run func(w impl.World)
		run = func(w impl.World) {
			for who := range w.Clients {
				x := stepWorld(w, who+1)
				if x.code != 0 {
					continue
				}
				if !sameBases(x.w.Base, w.Base) {
					checkTold(t, fmt.Sprint("crossing ", i), w, x.w)
					checkTold(t, fmt.Sprint("crossing ", i, " from its start"), start, x.w)
				} else if !slices.EqualFunc(x.w.Watches, w.Watches, sameWatches) {
					t.Fatal("an event without a change", w, x.w)
				}
				run(x.w)
			}
			if activePick(w) == 0 {
				for _, v := range w.Watches {
					counts[fmt.Sprint(v.Name, len(v.Queue) > 0)]++
				}
			}
		}
		run(start)
	}
	wantCounts(t, counts, map[string][]string{"": {"maintrue", "mainfalse", "devtrue", "devfalse", "xtrue", "xfalse"}})
}

// TestPromise12RandomRuns has branches that change more often than a queue has
// room for.
func TestPromise12RandomRuns(t *testing.T) {
	counts := map[string]int{}
	for seed := range 150 {
		r := rand.New(rand.NewPCG(uint64(seed), 12))
		w := randomWorld(r)
		if seed%3 == 0 {
			w = busyWorld(r)
		}
		x := runPicks(w, randomPicks(r, r.IntN(impl.MaxPicks+1), len(w.Clients))).w
		y := finishWorld(x).w
		checkTold(t, fmt.Sprint("run ", seed), w, x)
		checkTold(t, fmt.Sprint("run ", seed, " finished"), w, y)
		checkTold(t, fmt.Sprint("run ", seed, " from its middle"), x, y)
		for _, v := range y.Watches {
			counts[fmt.Sprint(len(v.Queue) > 0 && v.Queue[0].Lag, len(v.Queue))]++
		}
	}
	wantCounts(t, counts, map[string][]string{"": {"false 0", "false 1", "false 2", "false 3", "false 4", "true 1", "true 2", "true 3", "true 4"}})
}

// drained takes all events of the watches of a world.
func drained(t *testing.T, w impl.World) (impl.World, [][]impl.Event) {
	t.Helper()
	w = cloned(w)
	lists := [][]impl.Event{}
	for i, x := range w.Watches {
		next, list, code := impl.DrainWatch(x)
		if code != 0 {
			t.Fatal("DrainWatch", x, code)
		}
		w.Watches[i] = next
		lists = append(lists, list)
	}
	return w, lists
}

// TestPromise12Drained takes the events in the course of runs. Together they
// are the changes, except the ones before an event with Lag.
func TestPromise12Drained(t *testing.T) {
	lost, seen := 0, 0
	for seed := range 100 {
		r := rand.New(rand.NewPCG(uint64(seed), 21))
		start := busyWorld(r)
		w, taken := start, make([][]impl.Event, len(start.Watches))
		for part := range 12 {
			w = runPicks(w, randomPicks(r, 2+r.IntN(25), 5)).w
			if part == 11 {
				w = finishWorld(w).w
			}
			if part < 11 && r.IntN(3) == 0 {
				continue
			}
			var lists [][]impl.Event
			w, lists = drained(t, w)
			for i, list := range lists {
				taken[i] = append(taken[i], list...)
			}
		}
		for i, list := range taken {
			heads, code := impl.HeadsOf(w, start.Watches[i].Name)
			last := start.Watches[i].Seen
			for _, e := range list {
				missing := e.Version - last - 1
				if code != 0 || e.Lag != (missing > 0) || e.Head != heads[e.Version-start.Watches[i].Seen-1] {
					t.Fatal("not the change of this Version", e, heads, list)
				}
				last, lost, seen = e.Version, lost+missing, seen+1
			}
			if last != start.Watches[i].Seen+len(heads) {
				t.Fatal("the last change is missing", last, heads)
			}
		}
	}
	if lost < 100 || seen < 500 {
		t.Error("events", lost, seen)
	}
}

// TestPromise12OneBranch follows a branch that is created, changed, deleted and
// created again, with the events as they must be.
func TestPromise12OneBranch(t *testing.T) {
	list := wishes(wishCreate("x", "main"), wishCommit("x", set("b", 1)), wishDelete("x"), wishCreate("x", "dev"), wishMerge("x", "main"), wishCommit("x", set("c", 3)))
	w := newWorld(startBase(), lists(list), "x", "main")
	heads := []int{1, 3, 0, 2, 4}
	queues := [][]impl.Event{
		{ev(1, 1)}, {ev(1, 1), ev(2, 3)}, {ev(1, 1), ev(2, 3), ev(3, 0)}, {ev(1, 1), ev(2, 3), ev(3, 0), ev(4, 2)},
		{ev(1, 1), ev(2, 3), ev(3, 0), ev(4, 2)}, {lagged(5, 4)},
	}
	for i, queue := range queues {
		w, _ = endWish(t, w, 1)
		wantHeads(t, fmt.Sprint("after ", i), w, "x", modelHeads(w, "x")...)
		wantHeads(t, fmt.Sprint("after ", i), w, "main")
		if !sameWatches(w.Watches[0], watch("x", queue[len(queue)-1].Version, queue...)) || !sameWatches(w.Watches[1], watch("main", 1)) {
			t.Fatal("after", i, w.Watches, queue)
		}
	}
	// The merge finds that main is an ancestor already, so it is no change.
	wantHeads(t, "in the end", w, "x", heads...)
	wantTally(t, "in the end", w, impl.Tally{Ended: 6, Good: 5, Same: 1})
}

// TestPromise12FullQueue lets one branch change until a queue is full, and on:
// what is lost is told by the next event.
func TestPromise12FullQueue(t *testing.T) {
	w := newWorld(startBase(), lists(overtakers()[0], overtakers()[0]), "main")
	heads := []int{}
	for i := range 12 {
		who := 1 + i/impl.MaxWishes
		w, _ = endWish(t, w, who)
		if m := w.Moments[i]; m.Result.Code == impl.OK {
			heads = append(heads, m.Result.Commit)
		}
		wantHeads(t, "so far", w, "main", heads...)
		n := len(heads)
		first := n - 1 - (n-1)%impl.MaxQueue
		queue := events()
		for j, head := range heads[first:] {
			queue = append(queue, impl.Event{Version: 2 + first + j, Head: head, Lag: first > 0 && j == 0})
		}
		if !sameWatches(w.Watches[0], watch("main", 1+n, queue...)) {
			t.Fatal("after", n, "changes", w.Watches[0], queue)
		}
	}
	if len(heads) < 9 {
		t.Error("changes", heads)
	}
}

// TestPromise12FromTheMiddle begins with watches that have events pending, and
// clients in every Phase.
func TestPromise12FromTheMiddle(t *testing.T) {
	r := rand.New(rand.NewPCG(12, 3))
	for i, c := range validBases() {
		clients := []impl.Client{}
		for _, w := range fewWishes()[i%2:] {
			for j, x := range midway(c.b, w) {
				if j%11 == i%11 {
					clients = append(clients, x)
				}
			}
		}
		for part := range slices.Chunk(clients, impl.MaxClients) {
			w := world(c.b, part, "main", "near", "dev")
			for k, x := range w.Watches {
				w.Watches[k].Queue = eventsTo(x.Seen, min(x.Seen, r.IntN(impl.MaxQueue+1)))
			}
			x := runPicks(w, randomPicks(r, 6, len(part))).w
			checkTold(t, c.name, w, x)
			checkTold(t, c.name+" finished", w, finishWorld(x).w)
		}
	}
}

// TestPromise12FullBases has runs that meet the limits of commits and Versions.
func TestPromise12FullBases(t *testing.T) {
	full := 0
	for seed := range 20 {
		r := rand.New(rand.NewPCG(uint64(seed), 22))
		b := base(padded(crossed(), impl.MaxCommits-seed%4), live("main", 4, impl.MaxValue-seed%5), live("dev", 5, impl.MaxValue-3), live("x", 1, 1))
		list := lists()
		for range impl.MaxClients {
			list = append(list, randomClient(r).Wishes)
		}
		w := newWorld(b, list, "main", "dev", "x")
		x := finishWorld(runPicks(w, randomPicks(r, 60, 5)).w).w
		checkTold(t, fmt.Sprint("full run ", seed), w, x)
		for _, v := range x.Watches {
			if v.Seen == impl.MaxValue {
				full++
			}
		}
	}
	if full < 5 {
		t.Error("branches without a Version left", full)
	}
}
