package tests

import (
	"fmt"
	"math"
	"slices"
	"strings"
	"testing"

	"loop.example/g00737/impl"
)

func wantRan(t *testing.T, what string, got, want ran) {
	t.Helper()
	if !sameRan(got, want) {
		t.Fatalf("%s: %v; want %v", what, got, want)
	}
}

func TestPromise9Limits(t *testing.T) {
	if impl.MaxClients != 5 || impl.MaxWatches != 3 || impl.MaxPicks != 200 {
		t.Error("limits", impl.MaxClients, impl.MaxWatches, impl.MaxPicks)
	}
}

func TestPromise9NewWorld(t *testing.T) {
	for _, c := range validBases() {
		for _, wanted := range [][][]impl.Wish{nil, {}, {nil}, {{}, {}}, make([][]impl.Wish, impl.MaxClients), lists(fewWishes()[:impl.MaxWishes], nil, wishKinds("main", "dev"))} {
			for _, watched := range [][]string{nil, {}, {"main"}, {"gone_top", "never"}, {"main", "main", "main"}, {"old", "top", "abcdefghijkl"}} {
				want := world(c.b, nil, watched...)
				for _, list := range wanted {
					want.Clients = append(want.Clients, impl.Client{Wishes: list})
				}
				got, code := impl.NewWorld(c.b, wanted, watched)
				wantRan(t, fmt.Sprint("NewWorld in ", c.name, len(wanted), watched), ran{w: got, code: code}, ran{w: want})
				if !impl.WorldOK(got) {
					t.Error("WorldOK", c.name)
				}
			}
		}
	}
}

// TestPromise9NewWatchesSee has watches of branches that exist, are gone, and
// were never there.
func TestPromise9NewWatchesSee(t *testing.T) {
	b := base(crossed(), crossedRefs()...)
	for name, seen := range map[string]int{"main": 3, "old": 2, "top": impl.MaxValue, "gone_top": impl.MaxValue, "never": 0, "Main": 0} {
		if w := newWorld(b, nil, name); len(w.Watches) != 1 || !sameWatches(w.Watches[0], watch(name, seen)) {
			t.Error(name, w.Watches)
		}
	}
}

func TestPromise9CodesOfNewWorld(t *testing.T) {
	b, bad := startBase(), base(line(1), live("main", 2, 1))
	good := wishes(wishScan("main"))
	tooLong := strings.Repeat("a", impl.MaxText+1)
	for i, v := range []struct {
		b       impl.Base
		wishes  [][]impl.Wish
		watched []string
		code    int
	}{
		{b, lists(good, good, good, good, good), names("a", "a", "a"), impl.OK},
		{b, lists(good, good, good, good, good, good), nil, impl.ErrMany},
		{b, lists(nil, nil, nil, nil, nil, nil), names(""), impl.ErrMany},
		{b, nil, names("a", "a", "a", "a"), impl.ErrMany},
		{b, lists(wishes(impl.Wish{})), names("", "", "", ""), impl.ErrMany},
		{b, make([][]impl.Wish, impl.MaxList), make([]string, impl.MaxList), impl.ErrMany},
		{b, make([][]impl.Wish, impl.MaxList+1), nil, impl.ErrLong},
		{b, nil, make([]string, impl.MaxList+1), impl.ErrLong},
		{bad, make([][]impl.Wish, impl.MaxList+1), nil, impl.ErrLong},
		{bad, nil, make([]string, impl.MaxList+1), impl.ErrLong},
		{bad, nil, nil, impl.ErrBad},
		{bad, make([][]impl.Wish, impl.MaxList), names("a", "a", "a", "a"), impl.ErrBad},
		{impl.Base{}, lists(good), names("main"), impl.ErrBad},
		{b, lists(wishes(impl.Wish{})), names("a b"), impl.ErrBad},
		{b, lists(good, good, good, good, wishes(impl.Wish{})), nil, impl.ErrBad},
		{b, lists(good, slices.Repeat(good, impl.MaxWishes)), nil, impl.OK},
		{b, lists(good, slices.Repeat(good, impl.MaxWishes+1)), names("a b"), impl.ErrBad},
		{b, lists(good, slices.Repeat(good, impl.MaxList+1)), nil, impl.ErrBad},
		{b, lists(good), names("a", "b", ""), impl.ErrName},
		{b, nil, names(tooLong), impl.ErrName},
		{b, nil, names("abcdefghijklm"), impl.ErrName},
		{b, nil, names("1", "main"), impl.ErrName},
	} {
		w, code := impl.NewWorld(v.b, v.wishes, v.watched)
		if code != v.code || code != 0 && !sameWorlds(w, impl.World{}) || impl.WorldOK(w) != (code == 0) {
			t.Error("NewWorld", i, code, "not", v.code)
		}
	}
	for _, c := range baseCases() {
		want := first(c.bad, impl.ErrBad)
		if _, code := impl.NewWorld(c.b, lists(good), names("main")); code != want {
			t.Error("NewWorld", c.name, code)
		}
	}
	for i, x := range badWishes() {
		for _, wanted := range [][][]impl.Wish{{{x}}, {good, append(wishes(wishScan("a")), x)}, {{}, {x}, good}} {
			if _, code := impl.NewWorld(b, wanted, nil); code != impl.ErrBad {
				t.Error("NewWorld of wish", i, code)
			}
		}
	}
	for _, c := range textCases() {
		want := first(!c.isName, impl.ErrName)
		if _, code := impl.NewWorld(b, lists(good), names("main", c.t)); code != want {
			t.Error("NewWorld of name", brief(c.t), code)
		}
	}
}

// activePick is the number of a client that has not finished, or 0.
func activePick(w impl.World) int {
	return 1 + slices.IndexFunc(w.Clients, func(c impl.Client) bool { return c.Done < len(c.Wishes) })
}

func TestPromise9WorldOK(t *testing.T) {
	for _, c := range validWorlds() {
		if !modelWorldValid(c.w) || !impl.WorldOK(c.w) {
			t.Error("WorldOK", c.name)
		}
		if impl.AllDone(c.w) != (activePick(c.w) == 0) {
			t.Error("AllDone", c.name)
		}
		if !impl.SameWorld(c.w, c.w) || !impl.SameWorld(c.w, cloned(c.w)) {
			t.Error("SameWorld", c.name)
		}
	}
}

func wantInvalidWorld(t *testing.T, what string, w impl.World) {
	t.Helper()
	if impl.WorldOK(w) || impl.AllDone(w) || impl.SameWorld(w, w) {
		t.Fatal("WorldOK, AllDone or SameWorld:", what)
	}
	none := ran{code: impl.ErrBad}
	for _, who := range []int{0, 1, 4, 9} {
		wantRan(t, "StepWorld, "+what, stepWorld(w, who), none)
	}
	wantRan(t, "RunPicks of none, "+what, runPicks(w, nil), none)
	wantRan(t, "RunPicks of too many, "+what, runPicks(w, make([]int, impl.MaxPicks+1)), none)
	wantRan(t, "RunPicks of MaxList, "+what, runPicks(w, make([]int, impl.MaxList)), none)
	wantRan(t, "RunPicks beyond MaxList, "+what, runPicks(w, make([]int, impl.MaxList+1)), ran{code: impl.ErrLong})
	wantRan(t, "FinishWorld, "+what, finishWorld(w), none)
}

// TestPromise9EveryWorld breaks each field alone and compares with a model.
func TestPromise9EveryWorld(t *testing.T) {
	counts := map[string][2]int{}
	fresh := newWorld(startBase(), runWishes(), "main", "dev")
	mid := modelPicks(fresh, []int{1, 2, 1, 3, 5, 5, 1, 2, 2, 2, 3}).w
	for _, w := range []impl.World{fresh, crossedWorld(), mid, modelFinish(mid).w} {
		for i, c := range broken(w) {
			n := counts[c.name]
			if modelWorldValid(c.w) {
				if !impl.WorldOK(c.w) || !impl.SameWorld(c.w, c.w) || impl.AllDone(c.w) != (activePick(c.w) == 0) {
					t.Fatal("a valid world", i, c.name)
				}
				same := sameWorlds(w, c.w)
				if impl.SameWorld(w, c.w) != same || impl.SameWorld(c.w, w) != same {
					t.Fatal("SameWorld", i, c.name, !same)
				}
				n[1]++
			} else {
				wantInvalidWorld(t, fmt.Sprint(i, " ", c.name), c.w)
				if impl.SameWorld(w, c.w) || impl.SameWorld(c.w, w) {
					t.Fatal("SameWorld of an invalid one", i, c.name)
				}
				n[0]++
			}
			counts[c.name] = n
		}
	}
	for name, n := range counts {
		never := slices.Contains(names("fewer Moments", "more Moments", "order of Moments"), name)
		if (n[0] == 0) != (name == "fewer Watches") || (n[1] == 0) != never {
			t.Error("invalid and valid ones of", name, n)
		}
	}
	if len(counts) != 23 {
		t.Error("kinds of broken worlds", len(counts))
	}
}

// TestPromise9InvalidWatches has each invalid watch in a world that has the
// reference that it saw last.
func TestPromise9InvalidWatches(t *testing.T) {
	for _, c := range watchCases() {
		b := base(line(1))
		if r := live(c.w.Name, 1, c.w.Seen); !badRef(r) {
			b.Refs = []impl.Ref{r}
		}
		w := impl.World{Base: b, Watches: []impl.Watch{watch("never", 0), c.w}}
		if c.bad {
			wantInvalidWorld(t, c.name, w)
		} else if !impl.WorldOK(w) {
			t.Error("WorldOK", c.name)
		}
	}
}

func TestPromise9InvalidBases(t *testing.T) {
	for _, c := range baseCases() {
		if c.bad {
			wantInvalidWorld(t, c.name, impl.World{Base: c.b})
			wantInvalidWorld(t, c.name, world(c.b, []impl.Client{at0(wishScan("main"))}, "never"))
		}
	}
}

// TestPromise9TooMany has lists that are too long but of valid elements.
func TestPromise9TooMany(t *testing.T) {
	b := startBase()
	for n := range 9 {
		clients := world(b, make([]impl.Client, n))
		watches := world(b, nil, slices.Repeat(names("main"), n)...)
		if impl.WorldOK(clients) != (n <= 5) || impl.WorldOK(watches) != (n <= 3) {
			t.Error("WorldOK", n)
		}
	}
	for _, n := range []int{impl.MaxList, impl.MaxList + 1} {
		wantInvalidWorld(t, "clients", world(b, make([]impl.Client, n)))
		wantInvalidWorld(t, "watches", world(b, nil, slices.Repeat(names("main"), n)...))
		wantInvalidWorld(t, "moments", impl.World{Base: b, Moments: make([]impl.Moment, n), Steps: 9999})
	}
}

func TestPromise9SameWorld(t *testing.T) {
	list := validWorlds()
	for i, a := range list {
		for j, b := range list {
			if same := sameWorlds(a.w, b.w); impl.SameWorld(a.w, b.w) != same || same && i != j && a.w.Steps > 0 {
				t.Error("SameWorld", a.name, ",", b.name, !same)
			}
		}
		if impl.SameWorld(a.w, impl.World{}) || impl.SameWorld(impl.World{}, a.w) {
			t.Error("SameWorld of nothing", a.name)
		}
	}
}

// noPicks name no client of any world.
func noPicks() []int {
	return []int{math.MinInt, -1 << 32, -5, -1, 0, 6, 7, 200, 1<<32 + 1, math.MaxInt - 1, math.MaxInt}
}

func TestPromise9CodesOfStepWorld(t *testing.T) {
	for _, c := range validWorlds() {
		for _, who := range append(noPicks(), 1, 2, 3, 4, 5) {
			for _, steps := range []int{c.w.Steps, impl.MaxValue - 200, impl.MaxValue - 1, impl.MaxValue} {
				w := at(c.w, steps)
				code := first(who < 1 || who > len(w.Clients), impl.ErrNone)
				if code == 0 {
					x := w.Clients[who-1]
					code = first(x.Done == len(x.Wishes), impl.ErrDone, steps == impl.MaxValue, impl.ErrFull)
				}
				got, want := stepWorld(w, who), ran{w: w, code: code}
				if code == 0 {
					want = modelTurn(w, who)
				}
				wantRan(t, fmt.Sprint(c.name, ", ", who, " after ", steps), got, want)
				if !impl.WorldOK(got.w) {
					t.Fatal("WorldOK", c.name, who, steps)
				}
			}
		}
	}
}

func TestPromise9CodesOfRuns(t *testing.T) {
	for _, c := range validWorlds() {
		for _, steps := range []int{c.w.Steps, impl.MaxValue - 201, impl.MaxValue - 200, impl.MaxValue - 199, impl.MaxValue - 1, impl.MaxValue} {
			w := at(c.w, steps)
			full := steps > impl.MaxValue-200
			for _, n := range []int{0, 1, 5, 199, 200, 201, impl.MaxList, impl.MaxList + 1} {
				picks := slices.Repeat([]int{3, 1, 0, 2, 5}, n/5+1)[:n]
				want := ran{code: first(n > impl.MaxList, impl.ErrLong, n > 200, impl.ErrMany, full, impl.ErrFull)}
				switch want.code {
				case impl.OK:
					want = modelPicks(w, picks)
				case impl.ErrFull:
					want.w = w
				}
				wantRan(t, fmt.Sprint("RunPicks, ", c.name, " after ", steps, ", ", n), runPicks(w, picks), want)
			}
			want := ran{w: w, code: impl.ErrFull}
			if !full {
				want = modelFinish(w)
			}
			wantRan(t, fmt.Sprint("FinishWorld, ", c.name, " after ", steps), finishWorld(w), want)
		}
	}
}

// TestPromise9MaxValueSteps performs as many steps as there is room for.
func TestPromise9MaxValueSteps(t *testing.T) {
	w := newWorld(startBase(), lists(slices.Repeat(wishes(wishScan("main")), 6)))
	w = at(w, impl.MaxValue-2)
	for steps := impl.MaxValue - 1; steps <= impl.MaxValue; steps++ {
		x := stepWorld(w, 1)
		if x.code != 0 || x.w.Steps != steps || x.w.Moments[len(x.w.Moments)-1].Step != steps {
			t.Fatal("StepWorld", x)
		}
		w = x.w
	}
	wantRan(t, "beyond MaxValue", stepWorld(w, 1), ran{w: w, code: impl.ErrFull})
	w = newWorld(startBase(), lists(slices.Repeat(wishes(wishScan("main")), 6)))
	x := runPicks(at(w, impl.MaxValue-200), slices.Repeat([]int{1}, 200))
	if x.code != 0 || x.skipped != 194 || x.w.Steps != impl.MaxValue-194 {
		t.Error("RunPicks", x)
	}
}
