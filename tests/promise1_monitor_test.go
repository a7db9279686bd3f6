package tests

import (
	"fmt"
	"math/rand/v2"
	"slices"
	"testing"

	"loop.example/g00737/impl"
)

func (w *arguments) monitorCalls() []call {
	calls := []call{}
	for i, x := range w.worlds {
		calls = append(calls, monitorWorldCalls(w.worldNames[i], x)...)
	}
	for i, b := range w.bases {
		for j, list := range w.wanted {
			for k, picks := range w.picks {
				calls = append(calls, call{fmt.Sprint("AnyPicks ", w.baseNames[i], ", ", j, ", ", k), func() (string, func()) {
					yes, code := impl.AnyPicks(b, list, picks)
					return fmt.Sprint(yes, code), nothing
				}})
			}
		}
	}
	return calls
}

func monitorWorldCalls(name string, w impl.World) []call {
	calls := []call{{"TallyOf, LongestGap " + name, func() (string, func()) {
		x, one := impl.TallyOf(w)
		gap, two := impl.LongestGap(w)
		return fmt.Sprint(x, one, gap, two), nothing
	}}}
	for _, c := range append(fewTexts(), textCase{t: "main"}) {
		calls = append(calls, call{"HeadsOf " + name + ", " + brief(c.t), func() (string, func()) {
			list, code := impl.HeadsOf(w, c.t)
			return fmt.Sprint(list, code), overNumbers(list)
		}})
	}
	for who := range 7 {
		calls = append(calls, call{fmt.Sprint("NextOf, CanEnd ", name, ", ", who), func() (string, func()) {
			word, code := impl.NextOf(w, who)
			text := fmt.Sprint(word, code)
			for _, steps := range []int{-1, 0, 1, 2, 3, impl.MaxPicks, impl.MaxPicks + 1} {
				yes, code := impl.CanEnd(w, who, steps)
				text += fmt.Sprint(yes, code)
			}
			return text, nothing
		}})
	}
	return calls
}

// TestPromise1HeadsAreNew overwrites heads, which must not reach the world or
// the heads of another call.
func TestPromise1HeadsAreNew(t *testing.T) {
	_, run := mixedRun()
	for i, w := range []impl.World{headsWorld(), run, sharingWorld()} {
		before := worldMemory(w)
		for _, name := range names("main", "dev") {
			list, _ := impl.HeadsOf(w, name)
			again, _ := impl.HeadsOf(w, name)
			overNumbers(list)()
			if !slices.Equal(again, modelHeads(w, name)) || worldMemory(w) != before {
				t.Error("HeadsOf shares memory", i, name)
			}
		}
	}
}

// TestPromise1MonitoredWorldsKept has worlds whose parts share memory, and runs
// that would change all of them.
func TestPromise1MonitoredWorldsKept(t *testing.T) {
	long := modelPicks(newWorld(startBase(), runWishes(), "main", "main", "x"), randomPicks(rand.New(rand.NewPCG(9, 9)), 30, 5)).w
	for i, w := range []impl.World{sharingWorld(), newWorld(startBase(), runWishes(), "main"), long} {
		w = guardWorld(w)
		before := worldMemory(w)
		for _, c := range monitorWorldCalls("kept", w) {
			first, _ := c.run()
			if again, _ := c.run(); again != first || worldMemory(w) != before {
				t.Fatal("a world has changed", i, c.name)
			}
		}
	}
	b, list := guardBase(startBase()), runWishes()
	picks := guard(randomPicks(rand.New(rand.NewPCG(12, 9)), 90, 5), 1)
	text := fmt.Sprint(baseMemory(b), list, whole(picks))
	for range 50 {
		wantAnyPicks(t, "again", b, list, picks, 0)
		if fmt.Sprint(baseMemory(b), list, whole(picks)) != text {
			t.Fatal("AnyPicks has changed an argument")
		}
	}
}

func TestPromise1NilIsEmptyInMonitoring(t *testing.T) {
	for _, c := range validWorlds() {
		nilled, emptied := withoutElements(c.w)
		for _, w := range []impl.World{nilled, emptied} {
			wantTally(t, c.name, w, modelTally(c.w))
			wantGap(t, c.name, w, modelGap(c.w))
			wantHeads(t, c.name, w, "main", modelHeads(c.w, "main")...)
			for i, x := range c.w.Clients {
				wantNext(t, c.name, w, i+1, modelNextOf(x))
			}
		}
	}
	for _, wanted := range [][][]impl.Wish{nil, {}, {nil}, {{}}, {nil, {}, {impl.Wish{Kind: impl.OpCommit, Name: "main", Edits: []impl.Edit{}}}}} {
		for _, picks := range [][]int{nil, {}} {
			wantAnyPicks(t, "nothing", startBase(), wanted, picks, 0)
		}
	}
}

// TestPromise1MonitoringOfEarlierCalls asks about a run while it goes on, and
// about each of its worlds again when it has ended.
func TestPromise1MonitoringOfEarlierCalls(t *testing.T) {
	worlds, texts := []impl.World{}, []string{}
	tell := func(w impl.World) string {
		x, _ := impl.TallyOf(w)
		gap, _ := impl.LongestGap(w)
		heads, _ := impl.HeadsOf(w, "main")
		text := fmt.Sprint(x, gap, heads)
		for who := range impl.MaxClients {
			word, _ := impl.NextOf(w, who+1)
			yes, _ := impl.CanEnd(w, who+1, 2)
			text += fmt.Sprint(word, yes)
		}
		return text
	}
	for seed := range 4 {
		r := rand.New(rand.NewPCG(12, uint64(seed)))
		w := newWorld(startBase(), runWishes(), "main")
		for _, who := range randomPicks(r, 60, 5) {
			w = runPicks(w, []int{who}).w
			worlds, texts = append(worlds, w), append(texts, tell(w))
		}
	}
	for i, w := range worlds {
		if text := tell(w); text != texts[i] {
			t.Fatal("world", i, "is told of as", text, "not", texts[i])
		}
	}
}
