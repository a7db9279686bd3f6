package tests

import (
	"fmt"
	"math/rand/v2"
	"slices"
	"strings"
	"testing"

	"loop.example/g00737/impl"
)

// wantEnded expects the lines of moments in an output, in order.
func wantEnded(t *testing.T, what string, said []string, list []impl.Moment) {
	t.Helper()
	got, want := []string{}, []string{}
	for _, line := range said {
		if strings.HasPrefix(line, "step ") {
			got = append(got, line)
		}
	}
	for _, m := range list {
		want = append(want, modelMomentText(m).t)
	}
	if !slices.Equal(got, want) {
		t.Fatalf("moments %s: %q; want %q", what, got, want)
	}
}

// runSession runs what the lines prepare by picks, as many in each line, and to
// its end. The world is then what the picks alone lead to.
func runSession(t *testing.T, what string, lines []string, picks []int, each int) heard {
	t.Helper()
	start := runLines(lines...)
	if start.code != 0 || start.w.Steps != 0 || len(start.w.Moments) != 0 {
		t.Fatal("a world that has begun already", what, start)
	}
	steps := slices.Clone(lines)
	for part := range slices.Chunk(picks, each) {
		steps = append(steps, stepLine(part))
	}
	x, y := runLines(steps...), runLines(append(slices.Clone(steps), "finish")...)
	if x.code != 0 || y.code != 0 {
		t.Fatal("RunLines", what, len(steps), x.code, y.code)
	}
	middle := modelPicks(start.w, picks)
	if !sameWorlds(x.w, middle.w) || !sameWorlds(y.w, modelFinish(middle.w).w) {
		t.Fatal("the world of the lines", what, x.w, y.w)
	}
	checkWhole(t, what, start.w, x.w)
	checkWhole(t, what+" finished", start.w, y.w)
	wantEnded(t, what, x.said, x.w.Moments)
	wantEnded(t, what+" finished", y.said, y.w.Moments)
	if !impl.AllDone(y.w) || y.said[len(y.said)-1] != "end" {
		t.Fatal("the end", what, y.w)
	}
	wantSkipped(t, what, x.said, middle.skipped)
	return y
}

// wantSkipped adds what all lines skipped.
func wantSkipped(t *testing.T, what string, said []string, want int) {
	t.Helper()
	sum := 0
	for _, line := range said {
		n := 0
		if count, err := fmt.Sscanf(line, "skipped %d", &n); count == 1 && err == nil {
			sum += n
		}
	}
	if sum != want {
		t.Fatal("skipped", what, sum, "not", want)
	}
}

// randomWishes has any number of clients with any wishes.
func randomWishes(r *rand.Rand, busy bool) [][]impl.Wish {
	wanted := lists()
	if busy {
		for _, c := range busyWorld(r).Clients {
			wanted = append(wanted, c.Wishes)
		}
		return wanted
	}
	for range r.IntN(impl.MaxClients + 1) {
		list := randomClient(r).Wishes
		wanted = append(wanted, list[:r.IntN(len(list)+1)])
	}
	return wanted
}

// doLines execute wishes before the world begins.
func doLines(list ...impl.Wish) []string {
	lines := []string{}
	for _, w := range list {
		lines = append(lines, "do "+wishText(w))
	}
	return lines
}

// TestPromise17Sessions runs what the console reads from lines.
func TestPromise17Sessions(t *testing.T) {
	counts := map[string]int{}
	for seed := range 80 {
		r := rand.New(rand.NewPCG(17, uint64(seed)))
		lines := doLines(wishCommit("main", set("a", 1), set("b", 2)), wishCreate("dev", "main"), wishCommit("dev", set("c", r.IntN(5))))
		lines = append(lines, wishLines(randomWishes(r, seed%2 == 0))...)
		for range r.IntN(impl.MaxWatches + 1) {
			lines = append(lines, "watch "+names("main", "dev", "x", "never")[r.IntN(4)])
		}
		picks := randomPicks(r, r.IntN(impl.MaxPicks+1), impl.MaxClients)
		w := runSession(t, fmt.Sprint("session ", seed), lines, picks, 10+r.IntN(impl.MaxPicks-9)).w
		x := modelTally(w)
		counts["good"] += x.Good
		counts["conflicts"] += x.Conflicts
		counts["same"] += x.Same
		counts["gave up"] += x.GaveUp
		counts["other"] += x.Other
		counts[fmt.Sprint("clients ", len(w.Clients))]++
		counts[fmt.Sprint("watches ", len(w.Watches))]++
	}
	wantCounts(t, counts, map[string][]string{
		"": {"good", "conflicts", "same", "gave up", "other"}, "clients": {"0", "1", "2", "3", "4", "5"}, "watches": {"0", "1", "2", "3"},
	})
}

// TestPromise17SessionEvents drains the watches between the steps of a run:
// what is printed is what the branches got since then, or reports a loss.
func TestPromise17SessionEvents(t *testing.T) {
	lost, printed := 0, 0
	for seed := range 40 {
		r := rand.New(rand.NewPCG(17, uint64(100+seed)))
		lines := append(all("do create dev main"), wishLines(randomWishes(r, true))...)
		lines = append(lines, "watch main", "watch dev")
		w := runLines(lines...).w
		watches, picks := slices.Clone(w.Watches), randomPicks(r, impl.MaxPicks, impl.MaxClients)
		for part := range slices.Chunk(picks, 8+r.IntN(30)) {
			lines = append(lines, stepLine(part))
			before := w
			w = modelPicks(w, part).w
			for i, x := range watches {
				watches[i] = told(x, modelHeads(w, x.Name)[len(modelHeads(before, x.Name)):]...)
			}
			i := r.IntN(2)
			if lines = append(lines, fmt.Sprint("events ", i+1)); len(lines) > impl.MaxLines {
				break
			}
			want := []string{}
			for _, e := range watches[i].Queue {
				want = append(want, fmt.Sprintf("version %d head %d%s", e.Version, e.Head, map[bool]string{true: " lag"}[e.Lag]))
			}
			said := runLines(lines...).said
			if n := len(said) - len(want) - 1; n < 0 || !slices.Equal(said[n:], append(want, "end")) || strings.HasPrefix(said[n-1], "version") {
				t.Fatalf("events of watch %d, session %d: %q; want %q", i+1, seed, said, want)
			}
			if printed += len(want); len(want) > 0 && watches[i].Queue[0].Lag {
				lost++
			}
			watches[i].Queue = nil
		}
	}
	if lost < 10 || printed < 200 {
		t.Error("losses", lost, "of", printed)
	}
}

// TestPromise17SessionEveryBeginning has all orders in which clients can begin,
// one pick a line.
func TestPromise17SessionEveryBeginning(t *testing.T) {
	for i, list := range crossing() {
		lines := append(doLines(wishCommit("main", set("a", 1)), wishCreate("dev", "main"), wishCommit("dev", set("e", 2))), wishLines(list)...)
		lines = append(lines, watchLines(names("main", "x"))...)
		everyPicks(4, []int{1, 2, len(list)}, func(picks []int) {
			if len(picks) == 4 {
				runSession(t, fmt.Sprint("crossing ", i, picks), lines, picks, 1)
			}
		})
	}
}

// TestPromise17SessionAlone has one client, which ends its wishes like lines
// that do them at once.
func TestPromise17SessionAlone(t *testing.T) {
	for seed := range 60 {
		r := rand.New(rand.NewPCG(17, uint64(200+seed)))
		before, list := doLines(wishCommit("main", set("a", 1)), wishCreate("dev", "main")), randomClient(r).Wishes
		at, once := runSession(t, "alone", append(slices.Clone(before), wishLines(lists(list))...), nil, 1), runLines(append(slices.Clone(before), doLines(list...)...)...)
		if !sameBases(at.w.Base, once.w.Base) {
			t.Fatal("the repository", seed, at.w.Base, once.w.Base)
		}
		for i, m := range at.w.Moments {
			if got := once.said[len(before)+i]; got != modelResultText(m.Result).t {
				t.Fatalf("do %v: %q; want %v", list[i], got, m)
			}
		}
	}
}

// TestPromise17SessionNumbers has clients that all want the same.
func TestPromise17SessionNumbers(t *testing.T) {
	r := rand.New(rand.NewPCG(17, 300))
	for n := range impl.MaxClients + 1 {
		for _, list := range [][]impl.Wish{nil, wishKinds("main", "dev"), overtakers()[0], runWishes()[1]} {
			lines := append(all("do create dev main"), wishLines(slices.Repeat([][]impl.Wish{list}, n))...)
			for _, picks := range [][]int{nil, {-1, 0, 6, 999999999999999999, -999999999999999999}, {n, 1, n + 1}, slices.Repeat([]int{n}, impl.MaxPicks), randomPicks(r, impl.MaxPicks, n)} {
				w := runSession(t, fmt.Sprint(n, " clients"), append(slices.Clone(lines), "watch main", "watch dev", "watch main"), picks, impl.MaxPicks).w
				if len(w.Moments) != n*len(list) {
					t.Fatal("moments", w.Moments)
				}
			}
		}
	}
}
