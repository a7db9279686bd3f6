package tests

import (
	"fmt"
	"math"
	"math/rand/v2"
	"slices"
	"strings"
	"testing"

	"loop.example/g00737/impl"
)

func pastMemory(list []impl.Moment) string {
	text := strings.Builder{}
	for _, m := range whole(list) {
		text.WriteString(momentMemory(m))
	}
	return text.String()
}

func overOps(list []impl.Op) func() {
	return func() {
		for _, o := range list {
			overEdits(o.Edits)()
		}
		fill(list, impl.Op{Kind: 99})
	}
}

func (x runs) over() { overBoth(overBase(x.b), overResults(x.list))() }

// pastCases has moments of which some can be replayed.
func pastCases() [][]impl.Moment {
	list, _ := anyMoments()
	_, run := mixedRun()
	return [][]impl.Moment{
		nil, {}, list, run.Moments, crossedWorld().Moments, momentCases(), opMoments(validOps()[:impl.MaxCommits]...), opMoments(badOps()[:9]...),
		make([]impl.Moment, impl.MaxCommits), make([]impl.Moment, impl.MaxCommits+1), make([]impl.Moment, impl.MaxList+1),
	}
}

func (w *arguments) addPasts() {
	for _, list := range pastCases() {
		x := guardAll(list, guardMoment, markMoment)
		w.pasts = append(w.pasts, x)
		w.pastsBefore = append(w.pastsBefore, pastMemory(x))
	}
}

func (w *arguments) changedPast() string {
	for i, list := range w.pasts {
		if pastMemory(list) != w.pastsBefore[i] {
			return fmt.Sprint("moments ", i)
		}
	}
	return ""
}

func (w *arguments) orderCalls() []call {
	calls := []call{}
	for i, b := range w.bases {
		for j, list := range w.pasts {
			calls = append(calls, call{fmt.Sprint("Replay ", w.baseNames[i], ", ", j), func() (string, func()) {
				x := replay(b, list)
				return fmt.Sprint(x), x.over
			}})
		}
		for j, x := range w.worlds {
			calls = append(calls, call{"Linear " + w.baseNames[i] + ", " + w.worldNames[j], func() (string, func()) {
				yes, code := impl.Linear(b, x)
				return fmt.Sprint(yes, code), nothing
			}})
		}
	}
	for i, x := range w.worlds {
		calls = append(calls, historyCalls(w.worldNames[i], x)...)
	}
	return calls
}

func historyCalls(name string, w impl.World) []call {
	calls := []call{{"OrderOf " + name, func() (string, func()) {
		list, code := impl.OrderOf(w)
		return fmt.Sprint(list, code), overOps(list)
	}}, {"InOrder, RetriesEarned " + name, func() (string, func()) {
		inOrder, one := impl.InOrder(w)
		earned, two := impl.RetriesEarned(w)
		return fmt.Sprint(inOrder, one, earned, two), nothing
	}}}
	for _, who := range append(noPicks(), 1, 2, 3, 4, 5) {
		calls = append(calls, call{fmt.Sprint("MomentsOf ", name, ", ", who), func() (string, func()) {
			list, code := impl.MomentsOf(w, who)
			return fmt.Sprint(list, code), overMoments(list)
		}})
	}
	for _, c := range textCases() {
		for _, after := range []int{math.MinInt, 0, 5, math.MaxInt} {
			calls = append(calls, call{fmt.Sprint("ChangesOf ", name, ", ", brief(c.t), ", ", after), func() (string, func()) {
				n, code := impl.ChangesOf(w, c.t, after, math.MaxInt-5)
				return fmt.Sprint(n, code), nothing
			}})
		}
	}
	return calls
}

func withResults(list []impl.Result) []impl.Moment {
	out := []impl.Moment{}
	for _, r := range list {
		out = append(out, impl.Moment{Result: r})
	}
	return out
}

// ownMoments overwrites all that moments and a repository have, and reports
// whether nothing of it was in the same memory.
func ownMoments(b impl.Base, list []impl.Moment) bool {
	return ownMaps(b, impl.Client{}, list) && ownEdits(impl.Client{}, list)
}

// TestPromise1OrderIsNew has worlds in which all equal lists are in the same
// memory.
func TestPromise1OrderIsNew(t *testing.T) {
	long := modelPicks(newWorld(startBase(), runWishes(), "main"), randomPicks(rand.New(rand.NewPCG(10, 9)), 60, 5)).w
	_, mixed := mixedRun()
	for i, w := range []impl.World{sharingWorld(), long, mixed} {
		before := worldMemory(w)
		ops, _ := impl.OrderOf(w)
		if again, _ := impl.OrderOf(w); len(again) == 0 || !ownMoments(impl.Base{}, opMoments(ops...)) || !slices.EqualFunc(again, modelOrder(w), sameOps) {
			t.Error("OrderOf shares memory", i)
		}
		for who := range w.Clients {
			list, _ := impl.MomentsOf(w, who+1)
			if again, _ := impl.MomentsOf(w, who+1); !ownMoments(impl.Base{}, list) || !slices.EqualFunc(again, modelMoments(w, who+1), sameMoments) {
				t.Error("MomentsOf shares memory", i, who+1)
			}
		}
		x := replay(w.Base, w.Moments)
		if again := replay(w.Base, w.Moments); len(again.list) == 0 || !ownMoments(x.b, withResults(x.list)) {
			t.Error("Replay shares memory", i)
		} else {
			wantRuns(t, "Replay again", again, modelReplay(w.Base, w.Moments))
		}
		if worldMemory(w) != before {
			t.Error("a world has changed", i)
		}
	}
}

// TestPromise1ReplayIsNew replays moments that use the memory of the
// repository, and ones that keep the same Result or find the same map.
func TestPromise1ReplayIsNew(t *testing.T) {
	b, m := sharedBase(5)
	kept, edits := impl.Result{Keys: names("a", "b"), Map: m}, []impl.Edit{set("k00", 9)}
	list := []impl.Moment{{Result: kept}, {Result: kept}, {Op: opScan("main"), Result: kept}, {Op: opScan("main"), Result: kept}, {Op: opScan("dev")}, {Result: kept}}
	list = append(list, opMoments(opCommit("main", 0, edits...), opCommit("dev", 0, edits...), opCreate("x", 1), opCommit("x", 1, gone("k00")), opCommit("x", 2, edits...), opCommit("x", 2, edits...))...)
	text, moments := fmt.Sprint(b), pastMemory(list)
	for n := range len(list) + 1 {
		x := replay(b, list[:n])
		wantRuns(t, "Replay", x, modelReplay(b, list[:n]))
		if !ownMoments(x.b, withResults(x.list)) || fmt.Sprint(b) != text || pastMemory(list) != moments {
			t.Fatal("Replay shares memory", n)
		}
	}
	if x := replay(b, list); len(x.list[10].Keys) != 1 || len(x.list[11].Keys) != 1 {
		t.Error("conflicts", x.list)
	}
}

func TestPromise1NilIsEmptyInOrder(t *testing.T) {
	b, run := mixedRun()
	for _, c := range append(validWorlds(), worldCase{"mixed", run}) {
		nilled, emptied := withoutElements(c.w)
		for _, w := range []impl.World{nilled, emptied} {
			wantOps(t, c.name, w, modelOrder(c.w)...)
			wantLinear(t, c.name, b, w, modelLinear(b, c.w))
			wantInOrder(t, c.name, w, modelInOrder(c.w))
			wantEarned(t, c.name, w, modelEarned(c.w))
			wantChanges(t, c.name, w, "main", 0, impl.MaxValue, modelChanges(c.w, "main", 0, impl.MaxValue))
			wantRuns(t, c.name, replay(b, w.Moments), modelReplay(b, c.w.Moments))
			for who := range w.Clients {
				wantMoments(t, c.name, w, who+1, modelMoments(c.w, who+1)...)
			}
		}
	}
	if x := replay(base([]impl.Commit{{Parents: []int{}, Map: entries()}}), []impl.Moment{}); x.code != 0 || !sameBases(x.b, base([]impl.Commit{{}})) {
		t.Error("Replay of empty lists", x)
	}
}

// TestPromise1OrderOfEarlierCalls keeps the results for the worlds of a run,
// and replays each on the repository that the last one led to: they stay as
// they were, however the run goes on.
func TestPromise1OrderOfEarlierCalls(t *testing.T) {
	type kept struct {
		ops     []impl.Op
		moments []impl.Moment
		x       runs
	}
	list, texts := []kept{}, []string{}
	for seed := range 4 {
		r := rand.New(rand.NewPCG(10, uint64(seed)))
		b, w := startBase(), newWorld(startBase(), runWishes(), "main")
		for _, who := range randomPicks(r, 80, 5) {
			w = runPicks(w, []int{who}).w
			ops, _ := impl.OrderOf(w)
			moments, _ := impl.MomentsOf(w, 1+seed)
			k := kept{ops, moments, replay(b, w.Moments)}
			list, texts = append(list, k), append(texts, fmt.Sprint(k))
			b = k.x.b
		}
	}
	for i, k := range list {
		if fmt.Sprint(k) != texts[i] {
			t.Fatal("result", i, "changed later", k, texts[i])
		}
	}
}
