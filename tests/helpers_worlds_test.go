package tests

import (
	"fmt"
	"math"
	"math/rand/v2"
	"slices"

	"loop.example/g00737/impl"
)

func lists(list ...[]impl.Wish) [][]impl.Wish { return list }

func names(list ...string) []string { return list }

// world has clients at their beginning, or in the middle of a wish, and
// watches that have seen the references as they are.
func world(b impl.Base, clients []impl.Client, watched ...string) impl.World {
	w := impl.World{Base: b, Clients: clients}
	for _, name := range watched {
		w.Watches = append(w.Watches, watch(name, findRef(b.Refs, name).ref.Version))
	}
	return w
}

// newWorld expects that nothing is wrong with its arguments.
func newWorld(b impl.Base, wishes [][]impl.Wish, watched ...string) impl.World {
	w, code := impl.NewWorld(b, wishes, watched)
	if code != 0 {
		panic(fmt.Sprint("NewWorld: ", impl.CodeWord(code)))
	}
	return w
}

func at(w impl.World, steps int) impl.World {
	w.Steps = steps
	return w
}

// cloned has lists of its own, so that a test can change one field of them.
func cloned(w impl.World) impl.World {
	w.Clients, w.Watches, w.Moments = slices.Clone(w.Clients), slices.Clone(w.Watches), slices.Clone(w.Moments)
	return w
}

// ran has the results of a function that performs steps.
type ran struct {
	w             impl.World
	skipped, code int
}

func stepWorld(w impl.World, who int) ran {
	x, code := impl.StepWorld(w, who)
	return ran{w: x, code: code}
}

func runPicks(w impl.World, picks []int) ran {
	x, skipped, code := impl.RunPicks(w, picks)
	return ran{x, skipped, code}
}

func finishWorld(w impl.World) ran {
	x, code := impl.FinishWorld(w)
	return ran{w: x, code: code}
}

func sameWorlds(a, b impl.World) bool {
	return a.Steps == b.Steps && sameBases(a.Base, b.Base) && slices.EqualFunc(a.Clients, b.Clients, sameClients) &&
		slices.EqualFunc(a.Watches, b.Watches, sameWatches) && slices.EqualFunc(a.Moments, b.Moments, sameMoments)
}

func sameRan(a, b ran) bool {
	return a.code == b.code && a.skipped == b.skipped && sameWorlds(a.w, b.w)
}

// modelTurn performs a step of a client in a valid world, or skips it.
func modelTurn(w impl.World, who int) ran {
	code := first(who < 1 || who > len(w.Clients), impl.ErrNone)
	if code == 0 {
		c := w.Clients[who-1]
		code = first(c.Done == len(c.Wishes), impl.ErrDone, w.Steps == impl.MaxValue, impl.ErrFull)
	}
	if code != 0 {
		return ran{w: w, skipped: 1, code: code}
	}
	x, next := modelStep(w.Base, w.Clients[who-1]), cloned(w)
	next.Base, next.Clients[who-1], next.Steps = x.b, x.c, w.Steps+1
	for i, v := range w.Watches {
		if r := findRef(x.b.Refs, v.Name).ref; r.Version != v.Seen {
			next.Watches[i] = modelNote(watchCase{w: v}, r).w
		}
	}
	if m := x.m; m.Wish > 0 {
		m.Client, m.Step = who, next.Steps
		next.Moments = append(next.Moments, m)
	}
	return ran{w: next}
}

func modelPicks(w impl.World, picks []int) ran {
	out := ran{w: w}
	for _, who := range picks {
		x := modelTurn(out.w, who)
		out.w, out.skipped = x.w, out.skipped+x.skipped
	}
	return out
}

// oneAfterAnother has more picks of each client than it has steps left.
func oneAfterAnother(clients int) []int {
	picks := []int{}
	for who := range clients {
		picks = append(picks, slices.Repeat([]int{who + 1}, impl.MaxPicks/impl.MaxClients)...)
	}
	return picks
}

func modelFinish(w impl.World) ran {
	return ran{w: modelPicks(w, oneAfterAnother(len(w.Clients))).w}
}

// modelWorldValid relies on the functions of the parts of a world alone.
func modelWorldValid(w impl.World) bool {
	within := func(v, low, high int) bool { return v >= low && v <= high }
	if !impl.BaseOK(w.Base) || !within(w.Steps, 0, impl.MaxValue) || len(w.Clients) > 5 || len(w.Watches) > 3 {
		return false
	}
	ended, last := 0, 0
	for _, c := range w.Clients {
		if !impl.ClientOK(w.Base, c) {
			return false
		}
		ended += c.Done
	}
	for _, x := range w.Watches {
		if !impl.WatchOK(x) || x.Seen != findRef(w.Base.Refs, x.Name).ref.Version {
			return false
		}
	}
	if len(w.Moments) != ended {
		return false
	}
	for _, m := range w.Moments {
		if !within(m.Client, 1, len(w.Clients)) || !within(m.Wish, 1, w.Clients[m.Client-1].Done) || !within(m.Step, last+1, w.Steps) {
			return false
		}
		if !impl.OpOK(m.Op) && !sameOps(m.Op, impl.Op{}) {
			return false
		}
		r := m.Result
		if !within(r.Code, 0, 18) || !within(r.Commit, 0, len(w.Base.Store)) || !within(r.Value, -1000000, 1000000) || len(r.Keys) > 24 || !impl.MapOK(r.Map) {
			return false
		}
		last = m.Step
	}
	return true
}

type worldCase struct {
	name string
	w    impl.World
}

// crossedWorld has a client in each Phase and one that has finished, watches
// of a branch, of one that is gone and of one that was never there, and
// moments with and without an Op.
func crossedWorld() impl.World {
	b := base(crossed(), crossedRefs()...)
	c3, m := wishCommit("main", set("c", 3)), entries(entry("a", 1), entry("b", 1), entry("c", 3))
	w := world(b, []impl.Client{
		among(at2(c3, 4, 4, 3, 1, m)), among(at1(wishMerge("left", "right"), 7, 0)), at0(wishCreate("new", "main")), finished(2), {},
	}, "main", "old", "never")
	w.Watches[0].Queue, w.Watches[1].Queue = events(lagged(1, 3), ev(2, 2), ev(3, 4)), events(ev(2, 0))
	w.Moments = []impl.Moment{
		{Client: 1, Wish: 1, Step: 2, Op: opScan("main"), Result: impl.Result{Commit: 4, Map: m}},
		{Client: 2, Wish: 1, Step: 3, Op: opGet("main", "a"), Result: impl.Result{Commit: 4, Value: -7}},
		{Client: 4, Wish: 2, Step: 7, Result: codeOnly(impl.ErrRetries)},
		{Client: 1, Wish: 2, Step: 8, Op: opMerge("main", 60), Result: codeOnly(impl.ErrConflict, "a", "b")},
		{Client: 4, Wish: 2, Step: 9, Op: opCommit("left", 0, set("z", 1)), Result: impl.Result{Commit: 7}},
		{Client: 2, Wish: 2, Step: 12, Result: codeOnly(impl.ErrName)},
	}
	return at(w, 13)
}

// runWishes has wishes of several clients that get in each other's way.
func runWishes() [][]impl.Wish {
	return lists(
		wishes(wishCommit("main", set("b", 1)), wishMerge("dev", "main"), wishDelete("x"), wishScan("dev")),
		wishes(wishCommit("main", set("c", 1)), wishCommit("main", gone("a")), wishMerge("main", "dev")),
		wishes(wishCreate("x", "main"), wishCommit("x", set("d", 4)), wishMerge("main", "x"), wishCreate("x", "dev")),
		wishes(),
		wishes(wishGet("main", "b"), wishCommit("dev", set("a", 7)), wishCommit("main", set("a", 5)), wishDelete("none"), wishCreate("y", "none"), wishScan("x")),
	)
}

func startBase() impl.Base {
	return base([]impl.Commit{commit(entries(entry("a", 1))), commit(entries(entry("a", 1), entry("e", 2)), 1)}, live("main", 1, 1), live("dev", 2, 2))
}

func randomPicks(r *rand.Rand, n, clients int) []int {
	picks := []int{}
	for range n {
		picks = append(picks, r.IntN(clients+2))
	}
	return picks
}

// validWorlds has the worlds that runs lead to, and others.
func validWorlds() []worldCase {
	list := []worldCase{
		{"nothing", world(base(line(1)), nil)},
		{"no clients", world(startBase(), nil, "main", "dev", "none")},
		{"empty lists", impl.World{Base: startBase(), Clients: []impl.Client{}, Watches: []impl.Watch{}, Moments: []impl.Moment{}}},
		{"five clients that want nothing", world(startBase(), make([]impl.Client, 5))},
		{"one watch three times", world(startBase(), nil, "main", "main", "main")},
		{"crossed", crossedWorld()},
		{"crossed at MaxValue", at(crossedWorld(), impl.MaxValue)},
		{"no clients at MaxValue", at(world(startBase(), nil), impl.MaxValue)},
		{"room for a run", at(crossedWorld(), impl.MaxValue-200)},
		{"no room for a run", at(crossedWorld(), impl.MaxValue-199)},
		{"room for one step", at(crossedWorld(), impl.MaxValue-1)},
	}
	r := rand.New(rand.NewPCG(9, 0))
	for _, watched := range [][]string{nil, {"main"}, {"x", "x"}, {"dev", "never", "main"}} {
		w := newWorld(startBase(), runWishes(), watched...)
		for _, n := range []int{0, 1, 2, 9, 20, 60, 150} {
			list = append(list, worldCase{fmt.Sprint(n, " picks, watched ", watched), modelPicks(w, randomPicks(r, n, 5)).w})
		}
	}
	for _, c := range validBases() {
		list = append(list, worldCase{"in " + c.name, newWorld(c.b, lists(fewWishes()[:6], wishKinds("main", "dev"), wishKinds("new", "main")), "top", "main", "gone_top")})
	}
	return list
}

// broken changes one field of a world at a time. What results may be valid;
// the name begins with what was changed.
func broken(w impl.World) []worldCase {
	list := []worldCase{}
	add := func(name string, change func(w *impl.World)) {
		x := cloned(w)
		change(&x)
		list = append(list, worldCase{name, x})
	}
	for _, v := range []int{math.MinInt, -1, 0, 1, w.Steps - 1, w.Steps + 1, impl.MaxValue, impl.MaxValue + 1, math.MaxInt} {
		add("Steps", func(w *impl.World) { w.Steps = v })
	}
	for i, c := range baseCases() {
		if i%5 < 2 {
			add("Base", func(w *impl.World) { w.Base = c.b })
		}
	}
	list = append(list, brokenLists(w)...)
	for i := range w.Clients {
		for _, c := range brokenClients(w.Base, firstNotEmpty(w.Clients[i:])) {
			add("Client", func(w *impl.World) { w.Clients[i] = c })
		}
	}
	for i, x := range w.Watches {
		for _, seen := range append(badVersions(), x.Seen-1, x.Seen, x.Seen+1, impl.MaxValue) {
			add("Seen", func(w *impl.World) { w.Watches[i] = watch(x.Name, seen) })
			add("Seen and pending", func(w *impl.World) { w.Watches[i] = watch(x.Name, seen, lagged(seen, 1)) })
		}
		for _, name := range names("", "1", "a b", "abcdefghijklm", "none", "main", "top", "gone_top") {
			add("watched Name", func(w *impl.World) { w.Watches[i].Name = name })
		}
		for _, queue := range [][]impl.Event{nil, events(lagged(x.Seen, 60)), events(lagged(x.Seen, 61)), events(lagged(x.Seen-1, 1)), eventsTo(x.Seen, 5), events(ev(0, 0))} {
			add("Queue", func(w *impl.World) { w.Watches[i].Queue = queue })
		}
	}
	return append(list, brokenMoments(w)...)
}

// firstNotEmpty is the first client with wishes, or one that has not begun.
func firstNotEmpty(list []impl.Client) impl.Client {
	for _, c := range list {
		if len(c.Wishes) > 0 {
			return c
		}
	}
	return at0(wishScan("main"))
}

// brokenLists has too many or too few elements of each list.
func brokenLists(w impl.World) []worldCase {
	list := []worldCase{}
	add := func(name string, x impl.World) { list = append(list, worldCase{name, x}) }
	for n := range 8 {
		x := cloned(w)
		x.Clients = append(x.Clients, make([]impl.Client, n)...)
		add("more Clients", x)
		x = cloned(w)
		x.Watches = append(x.Watches, slices.Repeat([]impl.Watch{watch("never", 0)}, n)...)
		add("more Watches", x)
	}
	for i := range w.Clients {
		x := cloned(w)
		x.Clients = slices.Delete(x.Clients, i, i+1)
		add("fewer Clients", x)
	}
	for i := range w.Watches {
		x := cloned(w)
		x.Watches = slices.Delete(x.Watches, i, i+1)
		add("fewer Watches", x)
	}
	for i, m := range w.Moments {
		x := cloned(w)
		x.Moments = slices.Delete(x.Moments, i, i+1)
		add("fewer Moments", x)
		x = cloned(w)
		m.Step++
		x.Moments = slices.Insert(x.Moments, i+1, m)
		add("more Moments", x)
	}
	x := cloned(w)
	x.Moments = append(x.Moments, impl.Moment{Client: 1, Wish: 1, Step: w.Steps})
	add("more Moments", x)
	x.Moments = make([]impl.Moment, impl.MaxList+1)
	add("more Moments", x)
	return list
}

// brokenMoments changes one field of one moment, or the order of two.
func brokenMoments(w impl.World) []worldCase {
	list, bad, maps := []worldCase{}, badOps(), mapCases()
	ops := append(kinds("main"), impl.Op{Edits: []impl.Edit{}}, impl.Op{From: 1}, impl.Op{Key: "a"}, impl.Op{Edits: numberedEdits(1)})
	for i, m := range w.Moments {
		add := func(name string, change func(m *impl.Moment)) {
			x := cloned(w)
			change(&x.Moments[i])
			list = append(list, worldCase{"Moment's " + name, x})
		}
		for _, v := range []int{math.MinInt, -1, 0, 1, 2, 3, 4, 5, 6, 7, math.MaxInt} {
			add("Client", func(m *impl.Moment) { m.Client = v })
			add("Wish", func(m *impl.Moment) { m.Wish = v })
		}
		for _, v := range []int{math.MinInt, -1, 0, 1, m.Step - 1, m.Step + 1, m.Step + 2, w.Steps, w.Steps + 1, math.MaxInt} {
			add("Step", func(m *impl.Moment) { m.Step = v })
		}
		for j, o := range slices.Concat(ops, bad) {
			if j < len(ops) || j%7 == i%7 {
				add("Op", func(m *impl.Moment) { m.Op = o })
			}
		}
		for _, code := range []int{math.MinInt, -1, 0, 1, 17, 18, 19, math.MaxInt} {
			add("Code", func(m *impl.Moment) { m.Result.Code = code })
		}
		for _, id := range []int{math.MinInt, -1, 0, 1, len(w.Base.Store), len(w.Base.Store) + 1, impl.MaxCommits + 1, math.MaxInt} {
			add("Commit", func(m *impl.Moment) { m.Result.Commit = id })
		}
		for _, v := range values() {
			add("Value", func(m *impl.Moment) { m.Result.Value = v })
		}
		for _, n := range []int{0, 1, 24, 25, impl.MaxList + 1} {
			add("Keys", func(m *impl.Moment) { m.Result.Keys = make([]string, n) })
		}
		for _, c := range maps {
			add("Map", func(m *impl.Moment) { m.Result.Map = c.m })
		}
		if i > 0 {
			x := cloned(w)
			x.Moments[i-1], x.Moments[i] = m, x.Moments[i-1]
			list = append(list, worldCase{"order of Moments", x})
		}
	}
	return list
}
