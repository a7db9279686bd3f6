package tests

import (
	"fmt"
	"math/rand/v2"
	"slices"
	"strings"
	"testing"

	"loop.example/g00737/impl"
)

var (
	markClient = impl.Client{Done: 77, Phase: 7}
	markWatch  = impl.Watch{Name: "mark", Seen: 77}
	markMoment = impl.Moment{Client: 77, Step: 7}
)

func guardAll[T any](list []T, one func(x T) T, mark T) []T {
	out := []T{}
	for _, x := range list {
		out = append(out, one(x))
	}
	return guard(out, mark)
}

func guardWorld(w impl.World) impl.World {
	w.Base = guardBase(w.Base)
	w.Clients = guardAll(w.Clients, guardClient, markClient)
	w.Watches = guardAll(w.Watches, guardWatch, markWatch)
	w.Moments = guardAll(w.Moments, guardMoment, markMoment)
	return w
}

func worldMemory(w impl.World) string {
	text := strings.Builder{}
	fmt.Fprint(&text, baseMemory(w.Base), w.Steps)
	for _, c := range whole(w.Clients) {
		text.WriteString(clientMemory(c))
	}
	for _, x := range whole(w.Watches) {
		text.WriteString(watchMemory(x))
	}
	for _, m := range whole(w.Moments) {
		text.WriteString(momentMemory(m))
	}
	return text.String()
}

func overWorld(w impl.World) func() {
	return func() {
		overBase(w.Base)()
		for _, c := range w.Clients {
			overClient(c)()
		}
		for _, x := range w.Watches {
			overEvents(x.Queue)()
		}
		overMoments(w.Moments)()
		fill(w.Clients, impl.Client{Done: 99})
		fill(w.Watches, watch("over", 99))
	}
}

func (x ran) over() { overWorld(x.w)() }

func worldCases() []worldCase {
	list := validWorlds()
	for i, c := range broken(crossedWorld()) {
		if i%23 == 0 {
			list = append(list, c)
		}
	}
	return list
}

// wantedCases has lists of wishes and names for a new world.
func wantedCases() ([][][]impl.Wish, [][]string) {
	bad := wishes(wishScan("main"), impl.Wish{})
	return [][][]impl.Wish{nil, runWishes(), lists(wishKinds("main", "dev"), bad), make([][]impl.Wish, 6), make([][]impl.Wish, impl.MaxList+1)},
		[][]string{nil, {"main", "main", "none"}, {"a b"}, make([]string, 4), make([]string, impl.MaxList+1)}
}

func picksCases() [][]int {
	r := rand.New(rand.NewPCG(1, 9))
	return [][]int{nil, {}, noPicks(), randomPicks(r, 9, 5), randomPicks(r, 200, 5), make([]int, 201), make([]int, impl.MaxList+1)}
}

func (w *arguments) addWorlds() {
	for _, c := range worldCases() {
		x := guardWorld(c.w)
		w.worldNames = append(w.worldNames, c.name)
		w.worlds = append(w.worlds, x)
		w.worldsBefore = append(w.worldsBefore, worldMemory(x))
	}
	wanted, watched := wantedCases()
	for _, list := range wanted {
		w.wanted = append(w.wanted, guardAll(list, guardWishes, []impl.Wish{markWish}))
	}
	for _, list := range watched {
		w.watched = append(w.watched, guard(list, "mark"))
	}
	for _, picks := range picksCases() {
		w.picks = append(w.picks, guard(picks, 3))
	}
	w.runsBefore = w.runsMemory()
}

// runsMemory is for the arguments beside a world.
func (w *arguments) runsMemory() string {
	text := strings.Builder{}
	for _, list := range w.wanted {
		for _, x := range whole(list) {
			text.WriteString(wishesMemory(x))
		}
	}
	for _, list := range w.watched {
		fmt.Fprint(&text, whole(list))
	}
	for _, picks := range w.picks {
		fmt.Fprint(&text, whole(picks))
	}
	return text.String()
}

func (w *arguments) changedWorld() string {
	for i, x := range w.worlds {
		if worldMemory(x) != w.worldsBefore[i] {
			return "world " + w.worldNames[i]
		}
	}
	if w.runsMemory() != w.runsBefore {
		return "the wishes or names of a new world, or picks"
	}
	return ""
}

func (w *arguments) worldCalls() []call {
	calls := []call{}
	for i, b := range w.bases {
		for j, list := range w.wanted {
			for k, watched := range w.watched {
				calls = append(calls, ranCall(fmt.Sprint("NewWorld ", w.baseNames[i], ", ", j, ", ", k), func() ran {
					x, code := impl.NewWorld(b, list, watched)
					return ran{w: x, code: code}
				}))
			}
		}
	}
	for i, x := range w.worlds {
		name := w.worldNames[i]
		calls = append(calls, ranCall("FinishWorld "+name, func() ran { return finishWorld(x) }))
		calls = append(calls, call{"WorldOK, AllDone " + name, func() (string, func()) {
			return fmt.Sprint(impl.WorldOK(x), impl.AllDone(x)), nothing
		}})
		for _, who := range append(noPicks(), 1, 2, 3, 4, 5) {
			calls = append(calls, ranCall(fmt.Sprint("StepWorld ", name, ", ", who), func() ran { return stepWorld(x, who) }))
		}
		for j, picks := range w.picks {
			calls = append(calls, ranCall(fmt.Sprint("RunPicks ", name, ", ", j), func() ran { return runPicks(x, picks) }))
		}
		for j, other := range w.worlds {
			calls = append(calls, call{"SameWorld " + name + ", " + w.worldNames[j], func() (string, func()) {
				return fmt.Sprint(impl.SameWorld(x, other)), nothing
			}})
		}
	}
	return calls
}

func ranCall(name string, run func() ran) call {
	return call{name, func() (string, func()) {
		x := run()
		return fmt.Sprint(x), x.over
	}}
}

// ownWorld overwrites every slice of a world with numbers of its own and
// reports whether all of them are as they were written.
func ownWorld(w impl.World) bool {
	maps, all := [][]impl.Entry{}, impl.Client{}
	for _, c := range w.Clients {
		maps = append(maps, c.Map)
		all.Wishes = append(all.Wishes, c.Wishes...)
	}
	for _, m := range w.Moments {
		maps = append(maps, m.Result.Map)
	}
	if !ownMemory(w.Base, maps...) || !ownEdits(all, w.Moments) {
		return false
	}
	for i, x := range w.Watches {
		fill(x.Queue, ev(i, i))
	}
	for i, c := range w.Clients {
		fill(c.Wishes, wishScan(fmt.Sprint(i)))
	}
	for i, x := range w.Watches {
		if slices.ContainsFunc(x.Queue, func(e impl.Event) bool { return e != ev(i, i) }) {
			return false
		}
	}
	for i, c := range w.Clients {
		if slices.ContainsFunc(c.Wishes, func(x impl.Wish) bool { return x.Name != fmt.Sprint(i) }) {
			return false
		}
	}
	return true
}

// sharingWorld uses the same memory wherever its parts are equal.
func sharingWorld() impl.World {
	w := crossedWorld()
	m, edits, queue := w.Clients[0].Map, []impl.Edit{set("c", 3)}, events(lagged(3, 1))
	list := wishes(wishCommit("main", edits...), wishScan("main"), wishCommit("dev", edits...), wishCommit("right", edits...))
	w.Clients[0].Wishes = wishes(list[1], list[1], list[0], list[3])
	w.Clients[1].Wishes = wishes(list[1], list[1], wishMerge("left", "right"), list[0])
	w.Clients[2].Wishes, w.Clients[3].Wishes, w.Clients[4].Wishes = list, list, list
	w.Watches = []impl.Watch{watch("main", 3, queue...), watch("main", 3, queue...), watch("main", 3, queue...)}
	w.Base.Store[3].Map, w.Base.Store[7-1].Map = m[:2], m
	for i := range w.Moments {
		w.Moments[i].Op = opCommit("main", 1, edits...)
		w.Moments[i].Result = impl.Result{Keys: names("a", "b", "c")[:2], Map: m}
	}
	return w
}

// TestPromise1WorldsAreNew has worlds and results in which a careless function
// shares memory: between clients with the same wishes, watches of one name,
// moments and commits.
func TestPromise1WorldsAreNew(t *testing.T) {
	shared := sharingWorld()
	list := wishes(wishCommit("main", set("c", 3)), wishCommit("main", set("c", 4)), wishScan("main"), wishScan("main"), wishCommit("x", set("c", 3)))
	fresh := newWorld(startBase(), lists(list, list, list), "main", "main", "dev")
	long := modelPicks(newWorld(startBase(), runWishes(), "main", "main", "x"), randomPicks(rand.New(rand.NewPCG(9, 9)), 60, 5)).w
	calls := map[string]func(w impl.World) ran{
		"StepWorld":              func(w impl.World) ran { return stepWorld(w, 1) },
		"StepWorld of no client": func(w impl.World) ran { return stepWorld(w, 9) },
		"StepWorld of the last":  func(w impl.World) ran { return stepWorld(w, len(w.Clients)) },
		"RunPicks":               func(w impl.World) ran { return runPicks(w, slices.Repeat([]int{3, 1, 2, 1, 3, 2, 2}, 9)) },
		"RunPicks of none":       func(w impl.World) ran { return runPicks(w, nil) },
		"RunPicks at MaxValue":   func(w impl.World) ran { return runPicks(at(w, impl.MaxValue), nil) },
		"FinishWorld":            func(w impl.World) ran { return finishWorld(w) },
		"FinishWorld, MaxValue":  func(w impl.World) ran { return finishWorld(at(w, impl.MaxValue)) },
		"NewWorld": func(w impl.World) ran {
			x, code := impl.NewWorld(w.Base, lists(list, list, list), names("main", "main", "main"))
			return ran{w: x, code: code}
		},
	}
	for i, w := range []impl.World{shared, fresh, modelFinish(fresh).w, long, modelFinish(long).w} {
		if !impl.WorldOK(w) {
			t.Fatal("WorldOK", i)
		}
		before := worldMemory(w)
		for name, run := range calls {
			x, again := run(w), run(w)
			text := fmt.Sprint(again)
			if !ownWorld(x.w) {
				t.Error(name, "shares memory in its result", i)
			}
			if worldMemory(w) != before || fmt.Sprint(again) != text || len(again.w.Clients) == 0 {
				t.Error(name, "shares memory", i)
			}
		}
	}
}

// withoutElements returns a world twice: with nil and with empty lists.
func withoutElements(w impl.World) (nilled, emptied impl.World) {
	nilled, emptied = cloned(w), cloned(w)
	emptied.Clients, emptied.Watches, emptied.Moments = orEmpty(emptied.Clients), orEmpty(emptied.Watches), orEmpty(emptied.Moments)
	for i := range emptied.Clients {
		emptied.Clients[i].Wishes, emptied.Clients[i].Map = orEmpty(emptied.Clients[i].Wishes), orEmpty(emptied.Clients[i].Map)
		nilled.Clients[i].Wishes, nilled.Clients[i].Map = orNil(nilled.Clients[i].Wishes), orNil(nilled.Clients[i].Map)
	}
	for i := range emptied.Watches {
		emptied.Watches[i].Queue, nilled.Watches[i].Queue = orEmpty(emptied.Watches[i].Queue), orNil(nilled.Watches[i].Queue)
	}
	for i := range emptied.Moments {
		e, n := &emptied.Moments[i], &nilled.Moments[i]
		e.Op.Edits, n.Op.Edits = orEmpty(e.Op.Edits), orNil(n.Op.Edits)
		e.Result.Keys, n.Result.Keys = orEmpty(e.Result.Keys), orNil(n.Result.Keys)
		e.Result.Map, n.Result.Map = orEmpty(e.Result.Map), orNil(n.Result.Map)
	}
	nilled.Clients, nilled.Watches, nilled.Moments = orNil(nilled.Clients), orNil(nilled.Watches), orNil(nilled.Moments)
	return nilled, emptied
}

func TestPromise1NilIsEmptyInWorlds(t *testing.T) {
	for _, c := range validWorlds() {
		nilled, emptied := withoutElements(c.w)
		if !impl.WorldOK(emptied) || !impl.WorldOK(nilled) || !impl.SameWorld(nilled, emptied) || !impl.SameWorld(emptied, nilled) {
			t.Error("nil differs from empty", c.name)
		}
		picks := []int{1, 2, 1, 3, 4, 5, 1, 2}
		wantRan(t, "StepWorld", stepWorld(emptied, 1), stepWorld(nilled, 1))
		wantRan(t, "RunPicks", runPicks(emptied, picks), runPicks(nilled, picks))
		wantRan(t, "FinishWorld", finishWorld(emptied), finishWorld(nilled))
	}
}

func orEmpty[T any](list []T) []T {
	if list == nil {
		return []T{}
	}
	return list
}

func orNil[T any](list []T) []T {
	if len(list) == 0 {
		return nil
	}
	return list
}

// TestPromise1WorldsOfEarlierCalls keeps the results of earlier steps: they
// stay as they were, however the later ones go on.
func TestPromise1WorldsOfEarlierCalls(t *testing.T) {
	r := rand.New(rand.NewPCG(9, 4))
	kept, texts := []ran{}, []string{}
	keep := func(x ran) ran {
		kept, texts = append(kept, x), append(texts, fmt.Sprint(x))
		return x
	}
	for range 4 {
		w := newWorld(startBase(), runWishes(), "main", "dev", "x")
		for _, who := range randomPicks(r, 40, 5) {
			keep(runPicks(w, []int{5, 3, 1}))
			if x := keep(stepWorld(w, who)); x.code == 0 {
				w = x.w
			}
		}
		keep(finishWorld(w))
	}
	for i, x := range kept {
		if fmt.Sprint(x) != texts[i] {
			t.Fatal("result", i, "changed later", x, texts[i])
		}
	}
}

// TestPromise1WorldsManyTimes repeats runs: what the clients do at the same
// time must not show.
func TestPromise1WorldsManyTimes(t *testing.T) {
	r := rand.New(rand.NewPCG(9, 5))
	w, picks := newWorld(startBase(), runWishes(), "main", "dev", "x"), randomPicks(r, 120, 5)
	want, all := runPicks(w, picks), finishWorld(w)
	for range 200 {
		wantRan(t, "RunPicks again", runPicks(w, picks), want)
		wantRan(t, "FinishWorld again", finishWorld(w), all)
	}
}
