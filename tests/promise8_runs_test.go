package tests

import (
	"fmt"
	"math/rand/v2"
	"slices"
	"strings"
	"testing"

	"loop.example/g00737/impl"
)

// TestPromise8EveryClient compares with a model: clients in every Phase with
// every field out of place, so that each rule is broken alone.
func TestPromise8EveryClient(t *testing.T) {
	counts := map[string]int{}
	for i, c := range validBases() {
		for _, w := range fewWishes()[i%3:] {
			for j, x := range midway(c.b, w) {
				if j%(2+i) > 0 {
					continue
				}
				for _, y := range brokenClients(c.b, among(x)) {
					want := modelValid(c.b, y)
					if impl.ClientOK(c.b, y) != want {
						t.Fatal("ClientOK", c.name, y, !want)
					}
					counts[fmt.Sprint(want, " ", y.Phase)]++
				}
			}
		}
	}
	for _, key := range []string{"true 0", "true 1", "true 2", "false 0", "false 1", "false 2", "false 3"} {
		if counts[key] == 0 {
			t.Error("not tested:", key, counts)
		}
	}
}

func wantInvalid(t *testing.T, what string, b impl.Base, c impl.Client) {
	t.Helper()
	if impl.ClientOK(b, c) {
		t.Fatal("ClientOK", what)
	}
	if x := stepClient(b, c); !sameStepped(x, stepped{code: impl.ErrBad}) {
		t.Fatal("StepClient", what, x.code)
	}
	if x := runAlone(b, c); !sameAlone(x, alone{code: impl.ErrBad}) {
		t.Fatal("RunAlone", what, x.code)
	}
}

func TestPromise8Invalid(t *testing.T) {
	b := base(crossed(), crossedRefs()...)
	m := entries(entry("a", 1), entry("b", 1), entry("c", 3))
	good := at2(wishCommit("main", set("c", 3)), 4, 4, 3, 0, m)
	for _, c := range baseCases() {
		if c.bad {
			for _, x := range []impl.Client{{}, finished(1), at0(wishScan("main")), at1(wishCreate("new", "main"), 1, 0), good} {
				wantInvalid(t, c.name, c.b, x)
			}
		}
	}
	for i, w := range badWishes() {
		for _, list := range [][]impl.Wish{wishes(w), wishes(w, wishScan("main")), wishes(wishScan("main"), w)} {
			for done := range len(list) + 1 {
				wantInvalid(t, fmt.Sprint("wish ", i), b, impl.Client{Wishes: list, Done: done})
			}
		}
	}
	count := 0
	for _, x := range []impl.Client{good, among(good), among(at1(wishCreate("new", "main"), 1, 0)), among(at0(wishMerge("main", "dev"))), finished(6)} {
		for i, y := range brokenClients(b, x) {
			if !modelValid(b, y) {
				wantInvalid(t, fmt.Sprint("broken ", i), b, y)
				count++
			}
		}
	}
	if count < 250 {
		t.Error("invalid clients", count)
	}
}

// TestPromise8NoSuchLook has clients in Phase 2 that no look leads to, because
// it would end the wish, or because wishes of their kind do not look.
func TestPromise8NoSuchLook(t *testing.T) {
	counts := map[string]int{}
	for _, c := range validBases() {
		for _, w := range fewWishes() {
			for _, from := range someCommits(c.b) {
				for _, head := range someCommits(c.b) {
					what := "no look"
					if w.Kind == impl.OpCommit || w.Kind == impl.OpMerge {
						what = impl.CodeWord(modelLook(c.b.Store, w, from, head).code)
					}
					counts[what]++
					for _, m := range [][]impl.Entry{nil, c.b.Store[head-1].Map, c.b.Store[from-1].Map} {
						x := at2(w, from, head, 1, 0, m)
						fast := x
						fast.Fast = 1
						if what != "ok" && (impl.ClientOK(c.b, x) || impl.ClientOK(c.b, fast)) {
							t.Fatal("ClientOK", c.name, what, x)
						}
					}
				}
			}
		}
	}
	wantCounts(t, counts, map[string][]string{"": {"no look", "ok", "same", "conflict", "full"}})
}

// TestPromise8TooManyWishes has valid wishes alone.
func TestPromise8TooManyWishes(t *testing.T) {
	b := base(crossed(), crossedRefs()...)
	for _, n := range []int{impl.MaxWishes + 1, impl.MaxList, impl.MaxList + 1} {
		for _, done := range []int{0, 1, n} {
			c := finished(n)
			c.Done = done
			wantInvalid(t, fmt.Sprint(n, " wishes"), b, c)
		}
	}
	c := finished(impl.MaxWishes)
	c.Done = 0
	if x := runAlone(b, c); !impl.ClientOK(b, c) || x.code != 0 || x.c.Done != impl.MaxWishes || len(x.list) != impl.MaxWishes {
		t.Error("MaxWishes wishes", x)
	}
}

// TestPromise8EveryStep compares with a model: clients in every Phase, in
// repositories that may have changed since the client's last step.
func TestPromise8EveryStep(t *testing.T) {
	counts := map[string]int{}
	for _, c := range validBases() {
		for _, w := range fewWishes() {
			for _, x := range midway(c.b, w) {
				got := stepClient(c.b, x)
				wantStepped(t, fmt.Sprint(c.name, ", ", x), got, modelStep(c.b, x))
				checkStep(t, c.b, x, got)
				what := fmt.Sprint(w.Kind, " in ", x.Phase, " goes on")
				if got.m.Wish > 0 {
					what = fmt.Sprint(w.Kind, " in ", x.Phase, " ends ", impl.CodeWord(got.m.Result.Code))
				}
				counts[what]++
			}
		}
	}
	wantCounts(t, counts, map[string][]string{
		"1 in 0": {"goes on", "ends name"},
		"1 in 1": {"ends ok", "ends exists", "ends full"},
		"2 in 0": {"ends ok", "ends name", "ends full"},
		"3 in 0": {"goes on", "ends name", "ends full", "ends same"},
		"3 in 1": {"goes on", "ends name", "ends full", "ends same", "ends conflict"},
		"3 in 2": {"goes on", "ends ok", "ends name", "ends full", "ends same", "ends conflict", "ends retries"},
		"4 in 0": {"goes on", "ends name"},
		"4 in 1": {"goes on", "ends name", "ends full", "ends same", "ends conflict"},
		"4 in 2": {"goes on", "ends ok", "ends name", "ends full", "ends same", "ends conflict", "ends retries"},
		"5 in 0": {"ends ok", "ends name", "ends none"},
		"6 in 0": {"ends ok", "ends name"},
	})
}

func wantCounts(t *testing.T, counts map[string]int, want map[string][]string) {
	t.Helper()
	for where, list := range want {
		for _, what := range list {
			key := strings.TrimSpace(where + " " + what)
			if counts[key] == 0 {
				t.Error("not tested:", key)
			}
			delete(counts, key)
		}
	}
	if len(counts) > 0 {
		t.Error("others", counts)
	}
}

// checkStep holds for every step: it is a read of the repository or one
// operation, and leads to a valid client.
func checkStep(t *testing.T, b impl.Base, c impl.Client, x stepped) {
	t.Helper()
	if x.code != 0 || !impl.BaseOK(x.b) || !impl.ClientOK(x.b, x.c) || !impl.SameMoment(x.m, x.m) {
		t.Fatal("not valid", c, x)
	}
	if x.m.Wish == 0 {
		if !sameBases(x.b, b) || !sameMoments(x.m, impl.Moment{}) || x.c.Done != c.Done {
			t.Fatal("a change without a moment", c, x)
		}
		return
	}
	if !sameClients(x.c, impl.Client{Wishes: c.Wishes, Done: c.Done + 1}) || x.m.Wish != c.Done+1 || x.m.Client != 0 || x.m.Step != 0 {
		t.Fatal("not the end of the wish", c, x)
	}
	if x.m.Op.Kind == 0 {
		if code := x.m.Result.Code; !sameBases(x.b, b) || code != impl.ErrName && code != impl.ErrRetries {
			t.Fatal("a moment without an operation", c, x)
		}
		return
	}
	if y := doOp(b, x.m.Op); y.code != 0 || !sameBases(x.b, y.b) || !sameResults(x.m.Result, y.r) {
		t.Fatal("not what the operation does", c, x, y)
	}
	// The commit that a client saw coming is the one that it gets.
	if c.Phase == 2 && findRef(b.Refs, x.m.Op.Name).ref.Head == c.Head && x.m.Result.Code == 0 {
		if id := x.m.Result.Commit; c.Fast == 1 != (id == c.From) || c.Fast == 0 && !slices.Equal(x.b.Store[id-1].Map, c.Map) {
			t.Fatal("not the commit that was seen", c, x)
		}
	}
}

// atomic returns what a wish does as one operation.
func atomic(b impl.Base, w impl.Wish) alone {
	c := at0(w)
	if source := findRef(b.Refs, w.Source); source.live {
		c.From = source.ref.Head
	} else if w.Source != "" {
		return alone{b: b, list: []impl.Moment{{Wish: 1, Result: codeOnly(impl.ErrName)}}}
	}
	x := doOp(b, modelOp(c))
	if w.Kind == impl.OpCommit {
		// The operation without From is the one with the head as From.
		c.From = findRef(b.Refs, w.Name).ref.Head
	}
	return alone{b: x.b, list: []impl.Moment{{Wish: 1, Op: modelOp(c), Result: x.r}}}
}

func TestPromise8AloneIsAtomic(t *testing.T) {
	for _, c := range validBases() {
		for _, w := range validWishes() {
			want := atomic(c.b, w)
			want.c = impl.Client{Wishes: wishes(w), Done: 1}
			wantAlone(t, fmt.Sprint(c.name, ", ", w), runAlone(c.b, at0(w)), want)
		}
	}
}

func TestPromise8SeveralWishesAlone(t *testing.T) {
	r := rand.New(rand.NewPCG(8, 1))
	bases, all := validBases(), validWishes()
	for i := range 4000 {
		b, c := bases[i%len(bases)].b, impl.Client{}
		for range i % (impl.MaxWishes + 1) {
			c.Wishes = append(c.Wishes, all[r.IntN(len(all))])
		}
		want := alone{b: b, c: impl.Client{Wishes: c.Wishes, Done: len(c.Wishes)}}
		for j, w := range c.Wishes {
			x := atomic(want.b, w)
			x.list[0].Wish = j + 1
			want.b, want.list = x.b, append(want.list, x.list...)
		}
		wantAlone(t, fmt.Sprint(c), runAlone(b, c), want)
	}
}

// stepByStep counts the steps of each wish.
func stepByStep(b impl.Base, c impl.Client) (alone, []int) {
	out, counts, n := alone{b: b, c: c}, []int{}, 0
	for n < 10 {
		x := stepClient(out.b, out.c)
		if x.code == impl.ErrDone {
			break
		}
		out.b, out.c, n = x.b, x.c, n+1
		if x.m.Wish > 0 {
			out.list, counts, n = append(out.list, x.m), append(counts, n), 0
		}
	}
	return out, counts
}

// TestPromise8AloneFromAnywhere begins in every Phase, also with a branch that
// has changed since the look, or with all tries used up.
func TestPromise8AloneFromAnywhere(t *testing.T) {
	most := 0
	for _, c := range validBases() {
		for _, w := range fewWishes() {
			for i, x := range midway(c.b, w) {
				if i%3 > 0 {
					continue
				}
				x = among(x)
				want, counts := stepByStep(c.b, x)
				wantAlone(t, fmt.Sprint(c.name, ", ", x), runAlone(c.b, x), want)
				if want.c.Done != len(x.Wishes) || len(want.list) != 2 || want.list[0].Wish != 3 || want.list[1].Wish != 4 {
					t.Fatal("not all wishes ended", x, want)
				}
				most = max(most, slices.Max(counts))
			}
		}
	}
	if most != 3 {
		t.Error("steps of a wish", most)
	}
}

// changesBetween has what others may do between two steps of a client.
func changesBetween() []impl.Op {
	return []impl.Op{
		opCommit("main", 0, set("o", 1)), opCommit("main", 0, set("a", 7), set("o", 2)), opDelete("main"), opCreate("main", 1), opCreate("main", 2),
		opCommit("dev", 0, set("p", 1)), opDelete("dev"), opCreate("dev", 1), opMerge("main", 2),
	}
}

// TestPromise8EverySequence has all changes by others around the steps of a
// client; a client that is valid stays so.
func TestPromise8EverySequence(t *testing.T) {
	const depth = 5
	codes := map[string]int{}
	var run func(left int, b impl.Base, c impl.Client)
	run = func(left int, b impl.Base, c impl.Client) {
		if !impl.ClientOK(b, c) {
			t.Fatal("ClientOK", b, c)
		}
		x := stepClient(b, c)
		wantStepped(t, fmt.Sprint(b, c), x, modelStep(b, c))
		if x.code == impl.ErrDone {
			return
		}
		checkStep(t, b, c, x)
		if x.m.Wish > 0 {
			codes[fmt.Sprint(x.m.Op.Kind, " ", impl.CodeWord(x.m.Result.Code))]++
		}
		if left == 0 {
			return
		}
		run(left-1, x.b, x.c)
		for _, o := range changesBetween() {
			if y := doOp(b, o); y.r.Code == 0 {
				run(left-1, y.b, c)
			}
		}
	}
	start, _ := impl.NewBase(entries(entry("a", 1)))
	start = doOp(start, opCreate("dev", 1)).b
	for _, w := range []impl.Wish{
		wishCommit("main", set("a", 2)), wishCommit("main", set("b", 1)), wishMerge("main", "dev"), wishMerge("dev", "main"),
		wishCreate("main", "dev"), wishCreate("new", "main"), wishMerge("main", "main"), wishDelete("main"), wishGet("main", "a"), wishScan("dev"),
	} {
		run(depth, start, at0(w))
	}
	for _, key := range []string{"0 name", "1 ok", "1 exists", "2 ok", "2 name", "3 ok", "3 name", "3 conflict", "4 ok", "4 name", "4 same", "4 conflict", "5 ok", "5 name", "6 ok", "6 name"} {
		if codes[key] == 0 {
			t.Error("not tested:", key, codes)
		}
	}
}

// TestPromise8OvertakenAgain overtakes a client before each of its swaps: it
// tries MaxRetries times more and gives up, unless it is left alone in time.
func TestPromise8OvertakenAgain(t *testing.T) {
	overtake := map[string][]impl.Op{
		"commit":              {opCommit("main", 0, set("o", 1))},
		"recreated":           {opDelete("main"), opCreate("main", 1)},
		"moved":               {opMerge("main", 0)},
		"recreated as it was": {opDelete("main"), opCreate("main", 0)},
	}
	for name, ops := range overtake {
		for _, w := range []impl.Wish{wishCommit("main", set("b", 1)), wishMerge("main", "dev")} {
			for times := range impl.MaxRetries + 2 {
				b, c := base(line(2), live("main", 1, 1), live("dev", 1, 1)), at0(w)
				b = doOps(b, []impl.Op{opCommit("dev", 0, set("b", 2)), opCommit("main", 0, set("c", 2))}).b
				steps, moment := 0, impl.Moment{}
				for n := 0; moment.Wish == 0; steps++ {
					if c.Phase == 2 && n < times {
						b, n = overtaken(b, ops, n), n+1
					}
					x := stepClient(b, c)
					wantStepped(t, name, x, modelStep(b, c))
					b, c, moment = x.b, x.c, x.m
				}
				first := 2
				if w.Source != "" {
					first = 3
				}
				gaveUp := times > impl.MaxRetries
				if want := first + 2*min(times, impl.MaxRetries); steps != want || gaveUp != (moment.Result.Code == impl.ErrRetries) || gaveUp != (moment.Op.Kind == 0) {
					t.Fatal(name, w, times, "times:", steps, "steps, not", want, moment)
				}
			}
		}
	}
}

// overtaken executes operations; one without From is meant for the head that
// the branch has, and the n-th one that changes something makes n its value.
func overtaken(b impl.Base, ops []impl.Op, n int) impl.Base {
	head := findRef(b.Refs, "main").ref.Head
	for _, o := range ops {
		switch {
		case o.Kind == impl.OpCommit:
			o.Edits = []impl.Edit{set("o", n)}
		case o.Kind == impl.OpMerge:
			// Another branch gets a commit on top of main, to which main moves.
			b = doOp(b, opCreate("helper", head)).b
			b = doOp(b, opCommit("helper", 0, set("o", n))).b
			o.From = len(b.Store)
			b = doOp(b, opDelete("helper")).b
		case o.Kind == impl.OpCreate && o.From == 0:
			o.From = head
		}
		b = doOp(b, o).b
	}
	return b
}

// TestPromise8LongRuns has clients that take turns until the store is full and
// longer. The runs are always the same.
func TestPromise8LongRuns(t *testing.T) {
	retries, conflicts := 0, 0
	for seed := range 10 {
		r := rand.New(rand.NewPCG(uint64(seed), 8))
		b, _ := impl.NewBase(numbered(r.IntN(impl.MaxKeys + 1)))
		if seed > 7 {
			b.Refs[0].Version = impl.MaxValue - 20
		}
		clients := make([]impl.Client, 5)
		for range 1500 {
			if r.IntN(10) == 0 {
				// Without any branch no client could create one.
				b = doOp(b, opCreate("main", 1+r.IntN(len(b.Store)))).b
			}
			i := r.IntN(len(clients))
			if clients[i].Done == len(clients[i].Wishes) {
				clients[i] = randomClient(r)
			}
			x := stepClient(b, clients[i])
			wantStepped(t, fmt.Sprint(clients[i]), x, modelStep(b, clients[i]))
			checkStep(t, b, clients[i], x)
			b, clients[i] = x.b, x.c
			switch x.m.Result.Code {
			case impl.ErrRetries:
				retries++
			case impl.ErrConflict:
				conflicts++
			}
		}
		if seed < 8 && len(b.Store) != impl.MaxCommits {
			t.Error("run", seed, "ends with", len(b.Store), "commits")
		}
		for _, c := range clients {
			if x := runAlone(b, c); x.code != 0 || x.c.Done != len(c.Wishes) || len(x.list) != len(c.Wishes)-c.Done {
				t.Error("the rest of a client", c, x)
			}
		}
	}
	if retries == 0 || conflicts == 0 {
		t.Error("clients are not overtaken", retries, conflicts)
	}
}

// randomClient wants changes of few keys, so that clients overtake each other
// more often than they conflict.
func randomClient(r *rand.Rand) impl.Client {
	name := func() string { return []string{"main", "main", "main", "main", "dev", "x"}[r.IntN(6)] }
	list := wishes()
	for range 1 + r.IntN(impl.MaxWishes) {
		key := numbered(impl.MaxKeys)[r.IntN(impl.MaxKeys)].Key
		switch r.IntN(40) {
		case 0, 1, 2:
			list = append(list, wishCreate(name(), name()))
		case 3:
			list = append(list, wishDelete(name()))
		case 4:
			list = append(list, wishGet(name(), key))
		case 5:
			list = append(list, wishScan(name()))
		case 6, 7, 8, 9:
			list = append(list, wishMerge(name(), name()))
		case 10:
			list = append(list, wishCommit(name(), gone(key)))
		case 11:
			list = append(list, wishCommit(name(), randomEdits(r)...))
		default:
			list = append(list, wishCommit(name(), set(key, r.IntN(50))))
		}
	}
	c, _ := impl.NewClient(list)
	return c
}
