package tests

import (
	"fmt"
	"slices"
	"strings"
	"testing"

	"loop.example/g00737/impl"
)

var markWish = impl.Wish{Kind: 77, Name: "mark"}

func guardWishes(list []impl.Wish) []impl.Wish {
	out := wishes()
	for _, w := range list {
		w.Edits = guard(w.Edits, markEdit)
		out = append(out, w)
	}
	return guard(out, markWish)
}

func guardClient(c impl.Client) impl.Client {
	c.Wishes, c.Map = guardWishes(c.Wishes), guard(c.Map, markEntry)
	return c
}

func guardMoment(m impl.Moment) impl.Moment {
	m.Op = guardOp(m.Op)
	m.Result.Keys, m.Result.Map = guard(m.Result.Keys, "mark"), guard(m.Result.Map, markEntry)
	return m
}

func wishesMemory(list []impl.Wish) string {
	text := strings.Builder{}
	for _, w := range whole(list) {
		fmt.Fprint(&text, w, whole(w.Edits))
	}
	return text.String()
}

func clientMemory(c impl.Client) string {
	return wishesMemory(c.Wishes) + fmt.Sprint(numbersOf(c), whole(c.Map))
}

func momentMemory(m impl.Moment) string {
	return fmt.Sprint(m, whole(m.Op.Edits), whole(m.Result.Keys), whole(m.Result.Map))
}

func overClient(c impl.Client) func() {
	return func() {
		for _, w := range c.Wishes {
			overEdits(w.Edits)()
		}
		fill(c.Wishes, wishGet("over", "over"))
		overEntries(c.Map)()
	}
}

func overMoments(list []impl.Moment) func() {
	return func() {
		for _, m := range list {
			overBoth(overEdits(m.Op.Edits), overResult(m.Result))()
		}
		fill(list, impl.Moment{Wish: 99})
	}
}

func (x stepped) over() {
	overBoth(overBoth(overBase(x.b), overClient(x.c)), overMoments([]impl.Moment{x.m}))()
}

func (x alone) over() {
	overBoth(overBoth(overBase(x.b), overClient(x.c)), overMoments(x.list))()
}

// clientCases has clients in every Phase, of which each is valid for some
// repositories of baseCases, and clients that are never valid.
func clientCases() []impl.Client {
	c3, m := wishCommit("main", set("c", 3)), entries(entry("a", 1), entry("b", 1), entry("c", 3))
	list := []impl.Client{
		{}, finished(1), finished(impl.MaxWishes), finished(impl.MaxWishes + 1), finished(impl.MaxList + 1),
		{Wishes: wishKinds("main", "dev")}, {Wishes: wishKinds("new", "main"), Done: 2},
		at2(c3, 4, 4, 3, 0, m), at2(c3, 1, 4, 3, 2, m), at2(c3, 4, 4, 2, 0, m), at2(c3, 4, 4, 2, impl.MaxRetries, m),
		at1(c3, 4, 1), at1(wishCommit("main", set("a", 5)), 1, 2), at1(wishCreate("new", "main"), 1, 0),
		at1(wishMerge("left", "right"), 7, 0), at1(wishMerge("main", "left"), 6, 2), fast2(wishMerge("main", "left"), 6, 4, 3, 0),
		at2(wishMerge("left", "right"), 7, 6, 9, 1, entries(entry("a", 2), entry("b", 2), entry("c", 3))),
		at2(wishCommit("main", set("n", 9)), 1, 1, 1, 0, entries(entry("n", 9))),
	}
	for _, c := range slices.Clone(list[len(list)-12:]) {
		list = append(list, among(c))
	}
	b := base(crossed(), crossedRefs()...)
	for i, c := range brokenClients(b, at2(c3, 4, 4, 3, 0, m)) {
		if i%4 == 0 {
			list = append(list, c)
		}
	}
	for i, w := range badWishes() {
		if i%9 == 0 {
			list = append(list, at0(w))
		}
	}
	return list
}

func momentCases() []impl.Moment {
	full := impl.Moment{Client: 1, Wish: 2, Step: 3, Op: opCommit("main", 5, numberedEdits(2)...), Result: impl.Result{Code: 6, Commit: 7, Value: 8, Keys: []string{"c", "d"}, Map: numbered(2)}}
	other, bad := full, full
	other.Op.Edits, other.Result.Keys = numberedEdits(3), []string{"c"}
	bad.Op.Edits = numberedEdits(impl.MaxEdits + 1)
	return []impl.Moment{{}, full, other, bad, {Result: impl.Result{Keys: make([]string, 25)}}}
}

func (w *arguments) addClients() {
	for _, c := range clientCases() {
		x := guardClient(c)
		w.clients = append(w.clients, x)
		w.clientsBefore = append(w.clientsBefore, clientMemory(x))
	}
	lists := [][]impl.Wish{nil, make([]impl.Wish, impl.MaxWishes+1), make([]impl.Wish, impl.MaxList+1)}
	for _, list := range [][]impl.Wish{fewWishes(), badWishes()} {
		lists = slices.AppendSeq(lists, slices.Chunk(list, impl.MaxWishes))
	}
	for _, list := range lists {
		x := guardWishes(list)
		w.wishes = append(w.wishes, x)
		w.wishesBefore = append(w.wishesBefore, wishesMemory(x))
	}
	for _, m := range momentCases() {
		x := guardMoment(m)
		w.moments = append(w.moments, x)
		w.momentsBefore = append(w.momentsBefore, momentMemory(x))
	}
}

func (w *arguments) changedClient() string {
	for i, c := range w.clients {
		if clientMemory(c) != w.clientsBefore[i] {
			return fmt.Sprint("client ", i)
		}
	}
	for i, list := range w.wishes {
		if wishesMemory(list) != w.wishesBefore[i] {
			return fmt.Sprint("wishes ", i)
		}
	}
	for i, m := range w.moments {
		if momentMemory(m) != w.momentsBefore[i] {
			return fmt.Sprint("moment ", i)
		}
	}
	return ""
}

func (w *arguments) clientCalls() []call {
	calls := []call{}
	for i, list := range w.wishes {
		calls = append(calls, call{fmt.Sprint("NewClient, WishOK ", i), func() (string, func()) {
			c, code := impl.NewClient(list)
			text := fmt.Sprint(c, code)
			for _, x := range list[:min(len(list), impl.MaxWishes)] {
				text += fmt.Sprint(impl.WishOK(x))
			}
			return text, overClient(c)
		}})
	}
	for i, c := range w.clients {
		for j, b := range w.bases {
			calls = append(calls, stepCalls(fmt.Sprint(i, " in ", w.baseNames[j]), b, c)...)
		}
		for j, other := range w.clients {
			calls = append(calls, call{fmt.Sprint("SameClient ", i, ", ", j), func() (string, func()) {
				return fmt.Sprint(impl.SameClient(c, other)), nothing
			}})
		}
	}
	for i, m := range w.moments {
		for j, other := range w.moments {
			calls = append(calls, call{fmt.Sprint("SameMoment ", i, ", ", j), func() (string, func()) {
				return fmt.Sprint(impl.SameMoment(m, other)), nothing
			}})
		}
	}
	return calls
}

func stepCalls(name string, b impl.Base, c impl.Client) []call {
	return []call{{"ClientOK, StepClient " + name, func() (string, func()) {
		x := stepClient(b, c)
		return fmt.Sprint(impl.ClientOK(b, c), x), x.over
	}}, {"RunAlone " + name, func() (string, func()) {
		x := runAlone(b, c)
		return fmt.Sprint(x), x.over
	}}}
}

// sharingClient uses the same memory for all edits, and for the maps of the
// repository and of the client.
func sharingClient(c impl.Client, m []impl.Entry) impl.Client {
	list, edits := slices.Clone(c.Wishes), []impl.Edit{set("c", 3)}
	for i := range list {
		if list[i].Kind == impl.OpCommit {
			list[i].Edits = edits
		}
	}
	c.Wishes = list
	if len(c.Map) > 0 {
		c.Map = m
	}
	return c
}

// ownEdits overwrites every slice of edits and of keys with numbers of its own
// and reports whether all of them are as they were written.
func ownEdits(c impl.Client, list []impl.Moment) bool {
	edits, keys := [][]impl.Edit{}, [][]string{}
	for _, w := range c.Wishes {
		edits = append(edits, w.Edits)
	}
	for _, m := range list {
		edits, keys = append(edits, m.Op.Edits), append(keys, m.Result.Keys)
	}
	for i, e := range edits {
		fill(e, set("own", i))
	}
	for i, k := range keys {
		fill(k, fmt.Sprint(i))
	}
	for i, e := range edits {
		if slices.ContainsFunc(e, func(e impl.Edit) bool { return e != set("own", i) }) {
			return false
		}
	}
	for i, k := range keys {
		if slices.ContainsFunc(k, func(key string) bool { return key != fmt.Sprint(i) }) {
			return false
		}
	}
	return true
}

func ownMaps(b impl.Base, c impl.Client, list []impl.Moment) bool {
	maps := [][]impl.Entry{c.Map}
	for _, m := range list {
		maps = append(maps, m.Result.Map)
	}
	return ownMemory(b, maps...)
}

// TestPromise1ClientsAreNew has arguments and results in which a careless
// function shares memory: between the wish and the Op of its moment, the map
// of a client and of a commit, and the results of several moments.
func TestPromise1ClientsAreNew(t *testing.T) {
	m := entries(entry("a", 1), entry("c", 3))
	store := []impl.Commit{commit(entries(entry("a", 1))), commit(m, 1), commit(entries(entry("a", 2)), 1)}
	b := base(store, live("main", 1, 3), live("dev", 2, 1), live("x", 3, 1))
	commits := impl.Client{Wishes: wishes(wishCommit("main", set("c", 3)), wishCommit("x", set("c", 3)), wishScan("dev"), wishScan("dev"), wishMerge("x", "main"), wishCommit("main", set("c", 3)))}
	for i, c := range []impl.Client{
		{}, finished(3), commits,
		at2(wishCommit("main", set("c", 3)), 1, 1, 3, 0, m), at2(wishCommit("main", set("c", 3)), 1, 1, 2, 0, m), at2(wishCommit("main", set("c", 3)), 1, 1, 2, 3, m),
		at1(wishCommit("main", set("c", 3)), 1, 1), at1(wishMerge("dev", "x"), 3, 0), at0(wishMerge("dev", "x")), at0(wishScan("dev")), at0(wishCreate("y", "dev")),
		at0(wishCommit("none", set("c", 3))), at1(wishCommit("dev", set("c", 3)), 2, 1),
	} {
		c = sharingClient(c, m)
		text := fmt.Sprint(b, c, m)
		if !impl.ClientOK(b, c) {
			t.Fatal("ClientOK", i, c)
		}
		x := stepClient(b, c)
		if !ownMaps(x.b, x.c, []impl.Moment{x.m}) || !ownEdits(x.c, []impl.Moment{x.m}) || fmt.Sprint(b, c, m) != text {
			t.Fatal("StepClient shares memory", i, c)
		}
		y := runAlone(b, c)
		if !ownMaps(y.b, y.c, y.list) || !ownEdits(y.c, y.list) || fmt.Sprint(b, c, m) != text {
			t.Fatal("RunAlone shares memory", i, c)
		}
	}
	c, code := impl.NewClient(sharingClient(commits, m).Wishes)
	if code != 0 || !ownEdits(c, nil) {
		t.Error("NewClient shares memory", c)
	}
}

// TestPromise1ConflictsOfClientsAreNew has moments with equal keys in conflict.
func TestPromise1ConflictsOfClientsAreNew(t *testing.T) {
	b := base(crossed(), crossedRefs()...)
	bad := wishMerge("main", "dev")
	x := runAlone(b, impl.Client{Wishes: wishes(bad, bad, bad)})
	if len(x.list) != 3 || len(x.list[0].Result.Keys) != 1 || !ownEdits(x.c, x.list) {
		t.Error("keys share memory", x)
	}
}

func TestPromise1NilIsEmptyInClients(t *testing.T) {
	b := base([]impl.Commit{{}, commit(entries(entry("a", 1)), 1)}, live("main", 2, 2), live("dev", 1, 1))
	remove := wishCommit("main", gone("a"))
	for _, v := range []impl.Client{{}, finished(1), at0(remove), at1(remove, 2, 1), at2(remove, 2, 2, 2, 0, nil), at2(remove, 2, 2, 1, 1, nil), fast2(wishMerge("dev", "main"), 2, 1, 1, 0), at0(wishScan("dev")), at0(wishCommit("main"))} {
		nilled, emptied := v, v
		emptied.Wishes, emptied.Map = append(wishes(), v.Wishes...), entries()
		for i := range emptied.Wishes {
			emptied.Wishes[i].Edits = append([]impl.Edit{}, v.Wishes[i].Edits...)
		}
		if !impl.ClientOK(b, nilled) || !impl.ClientOK(b, emptied) || !impl.SameClient(nilled, emptied) || !impl.SameClient(emptied, nilled) {
			t.Error("nil differs from empty", v)
		}
		wantStepped(t, "StepClient", stepClient(b, emptied), stepClient(b, nilled))
		wantAlone(t, "RunAlone", runAlone(b, emptied), runAlone(b, nilled))
	}
	for _, none := range [][]impl.Wish{nil, {}} {
		if c, code := impl.NewClient(none); code != 0 || !sameClients(c, impl.Client{}) {
			t.Error("NewClient", c, code)
		}
	}
	empty := impl.Moment{Op: impl.Op{Edits: []impl.Edit{}}, Result: impl.Result{Keys: []string{}, Map: entries()}}
	if !impl.SameMoment(empty, impl.Moment{}) || !impl.SameMoment(impl.Moment{}, empty) {
		t.Error("SameMoment tells nil from empty")
	}
}

// TestPromise1ClientsOfEarlierCalls keeps the results of earlier steps: they
// stay as they were, however the later ones go on.
func TestPromise1ClientsOfEarlierCalls(t *testing.T) {
	b, _ := impl.NewBase(numbered(3))
	kept, texts := []stepped{}, []string{}
	for i := range 12 {
		c, _ := impl.NewClient(wishes(wishCommit("main", set("a", i)), wishCreate("dev", "main"), wishCommit("dev", gone("a")), wishMerge("main", "dev"), wishScan("main"), wishDelete("dev")))
		for x := stepClient(b, c); x.code == 0; x = stepClient(x.b, x.c) {
			kept, texts = append(kept, x), append(texts, fmt.Sprint(x))
			b = x.b
		}
	}
	for i, x := range kept {
		if fmt.Sprint(x) != texts[i] {
			t.Fatal("step", i, "changed later", x, texts[i])
		}
	}
}
