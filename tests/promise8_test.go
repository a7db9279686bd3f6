package tests

import (
	"slices"
	"testing"

	"loop.example/g00737/impl"
)

func wantStepped(t *testing.T, what string, got, want stepped) {
	t.Helper()
	if !sameStepped(got, want) {
		t.Fatalf("%s: %v; want %v", what, got, want)
	}
}

func wantAlone(t *testing.T, what string, got, want alone) {
	t.Helper()
	if !sameAlone(got, want) {
		t.Fatalf("%s: %v; want %v", what, got, want)
	}
}

func TestPromise8WishOK(t *testing.T) {
	for i, w := range validWishes() {
		if !impl.WishOK(w) {
			t.Error("WishOK", i, w)
		}
	}
	for i, w := range badWishes() {
		if impl.WishOK(w) {
			t.Error("WishOK", i, w.Kind, brief(w.Name), brief(w.Source), brief(w.Key), len(w.Edits))
		}
	}
	for _, c := range textCases() {
		for _, w := range wishKinds(c.t, "a") {
			if impl.WishOK(w) != c.isName {
				t.Error("WishOK", w.Kind, brief(c.t))
			}
		}
		if impl.WishOK(wishGet("a", c.t)) != c.isName || impl.WishOK(wishCreate("a", c.t)) != c.isName || impl.WishOK(wishMerge("a", c.t)) != c.isName {
			t.Error("WishOK of a Key or a Source", brief(c.t))
		}
	}
	for _, c := range editCases() {
		if impl.WishOK(wishCommit("a", c.list...)) == c.bad {
			t.Error("WishOK of edits", c.name)
		}
	}
	if !impl.WishOK(wishMerge("a", "a")) || !impl.WishOK(wishCreate("a", "a")) {
		t.Error("a branch may be its own Source")
	}
}

func TestPromise8NewClient(t *testing.T) {
	list := func(n int, last ...impl.Wish) []impl.Wish {
		return append(slices.Repeat(wishes(wishCommit("main", set("a", 1))), n-len(last)), last...)
	}
	for i, v := range []struct {
		list []impl.Wish
		code int
	}{
		{nil, impl.OK},
		{wishes(), impl.OK},
		{list(1), impl.OK},
		{wishKinds("a", "b"), impl.OK},
		{list(impl.MaxWishes), impl.OK},
		{list(impl.MaxWishes, impl.Wish{}), impl.ErrBad},
		{append(wishes(impl.Wish{}), list(2)...), impl.ErrBad},
		{list(impl.MaxWishes + 1), impl.ErrMany},
		{list(impl.MaxWishes+1, impl.Wish{}), impl.ErrMany},
		{make([]impl.Wish, impl.MaxList), impl.ErrMany},
		{list(impl.MaxList + 1), impl.ErrLong},
		{make([]impl.Wish, impl.MaxList+1), impl.ErrLong},
	} {
		want := impl.Client{}
		if v.code == 0 {
			want.Wishes = v.list
		}
		if c, code := impl.NewClient(v.list); code != v.code || !sameClients(c, want) {
			t.Error("NewClient", i, c, code)
		}
	}
	for i, w := range validWishes() {
		if c, code := impl.NewClient(wishes(w)); code != 0 || !sameClients(c, at0(w)) {
			t.Error("NewClient", i, w, c, code)
		}
	}
	for i, w := range badWishes() {
		if c, code := impl.NewClient(wishes(wishScan("a"), w)); code != impl.ErrBad || !sameClients(c, impl.Client{}) {
			t.Error("NewClient of an invalid wish", i, code)
		}
	}
}

// before is a step of a client with what it leads to.
type before struct {
	name string
	b    impl.Base
	c    impl.Client
	want stepped
}

func goesOn(name string, b impl.Base, c, next impl.Client) before {
	return before{name, b, c, stepped{b: b, c: next}}
}

func endsUnchanged(name string, b impl.Base, c impl.Client, o impl.Op, r impl.Result) before {
	return before{name, b, c, modelEnd(b, c, o, r)}
}

// endsAs expects what the operation itself does, which is to have this Code.
func endsAs(name string, b impl.Base, c impl.Client, o impl.Op, code int) before {
	x := doOp(b, o)
	v := before{name, b, c, modelEnd(x.b, c, o, x.r)}
	if x.code != 0 || x.r.Code != code {
		v.name, v.want.code = name+" has another Code", -1
	}
	return v
}

func checkSteps(t *testing.T, list []before) {
	t.Helper()
	for _, v := range list {
		for _, place := range []func(c impl.Client) impl.Client{func(c impl.Client) impl.Client { return c }, among} {
			c, want := place(v.c), v.want
			if want.m.Wish > 0 {
				want.c, want.m.Wish = impl.Client{Wishes: c.Wishes, Done: c.Done + 1}, c.Done+1
			} else {
				want.c = place(want.c)
			}
			if !impl.ClientOK(v.b, c) {
				t.Fatal("ClientOK", v.name, c)
			}
			wantStepped(t, v.name, stepClient(v.b, c), want)
		}
	}
}

func codeOnly(code int, keys ...string) impl.Result { return impl.Result{Code: code, Keys: keys} }

func TestPromise8OneStep(t *testing.T) {
	b := base(crossed(), crossedRefs()...)
	list := []before{
		endsAs("delete", b, at0(wishDelete("main")), opDelete("main"), impl.OK),
		endsAs("get", b, at0(wishGet("main", "a")), opGet("main", "a"), impl.OK),
		endsAs("scan", b, at0(wishScan("main")), opScan("main"), impl.OK),
		endsAs("no key", b, at0(wishGet("main", "c")), opGet("main", "c"), impl.ErrNone),
		endsAs("delete the last Version", b, at0(wishDelete("top")), opDelete("top"), impl.ErrFull),
	}
	for _, name := range []string{"old", "new"} {
		list = append(list,
			endsAs("delete nothing", b, at0(wishDelete(name)), opDelete(name), impl.ErrName),
			endsAs("get of nothing", b, at0(wishGet(name, "a")), opGet(name, "a"), impl.ErrName),
			endsAs("scan of nothing", b, at0(wishScan(name)), opScan(name), impl.ErrName))
	}
	checkSteps(t, list)
}

func TestPromise8Create(t *testing.T) {
	some := crossedRefs()
	b, full := base(crossed(), some[:7]...), base(crossed(), some...)
	w := wishCreate("new", "main")
	checkSteps(t, []before{
		goesOn("the head of Source", b, at0(w), at1(w, 4, 0)),
		goesOn("Source with the last Version", b, at0(wishCreate("new", "top")), at1(wishCreate("new", "top"), 2, 0)),
		goesOn("a branch of itself", b, at0(wishCreate("main", "main")), at1(wishCreate("main", "main"), 4, 0)),
		goesOn("no look at the Name", full, at0(w), at1(w, 4, 0)),
		endsUnchanged("no Source", b, at0(wishCreate("new", "none")), impl.Op{}, codeOnly(impl.ErrName)),
		endsUnchanged("Source is gone", b, at0(wishCreate("new", "old")), impl.Op{}, codeOnly(impl.ErrName)),
		endsUnchanged("no Source, Name exists", b, at0(wishCreate("main", "none")), impl.Op{}, codeOnly(impl.ErrName)),
		endsAs("new", b, at1(w, 4, 0), opCreate("new", 4), impl.OK),
		endsAs("Source moved", b, at1(w, 2, 0), opCreate("new", 2), impl.OK),
		endsAs("Source went", b, at1(wishCreate("new", "old"), 2, 0), opCreate("new", 2), impl.OK),
		endsAs("Source was never here", b, at1(wishCreate("new", "none"), 7, 0), opCreate("new", 7), impl.OK),
		endsAs("revived", b, at1(wishCreate("old", "main"), 4, 0), opCreate("old", 4), impl.OK),
		endsAs("revived from itself", b, at1(wishCreate("old", "old"), 4, 0), opCreate("old", 4), impl.OK),
		endsAs("exists", b, at1(wishCreate("dev", "main"), 4, 0), opCreate("dev", 4), impl.ErrExists),
		endsAs("exists, MaxValue", b, at1(wishCreate("top", "main"), 4, 0), opCreate("top", 4), impl.ErrExists),
		endsAs("gone, MaxValue", b, at1(wishCreate("gone_top", "main"), 4, 0), opCreate("gone_top", 4), impl.ErrFull),
		endsAs("MaxRefs", full, at1(w, 4, 0), opCreate("new", 4), impl.ErrFull),
	})
}

// TestPromise8CommitLooks has both Phases in which a commit looks: with a
// From that is known and without.
func TestPromise8CommitLooks(t *testing.T) {
	a1, b1, c3 := entry("a", 1), entry("b", 1), entry("c", 3)
	c := wishCommit("main", set("c", 3))
	a5 := wishCommit("main", set("a", 5))
	list := []before{}
	for _, n := range []int{7, impl.MaxCommits} {
		b := base(padded(crossed(), n), crossedRefs()...)
		top, near := wishCommit("top", set("c", 3)), wishCommit("near", set("c", 3))
		list = append(list,
			goesOn("first", b, at0(c), at2(c, 4, 4, 3, 0, entries(a1, b1, c3))),
			goesOn("again", b, at1(c, 1, 1), at2(c, 1, 4, 3, 1, entries(a1, b1, c3))),
			goesOn("for the last time", b, at1(c, 2, impl.MaxRetries), at2(c, 2, 4, 3, impl.MaxRetries, entries(a1, b1, c3))),
			goesOn("again from the head", b, at1(c, 4, 2), at2(c, 4, 4, 3, 2, entries(a1, b1, c3))),
			goesOn("MaxValue", b, at0(top), at2(top, 2, 2, impl.MaxValue, 0, entries(a1, entry("b", 0), c3))),
			goesOn("MaxValue again", b, at1(top, 1, 1), at2(top, 1, 2, impl.MaxValue, 1, entries(a1, entry("b", 0), c3))),
			goesOn("near MaxValue", b, at0(near), at2(near, 3, 3, impl.MaxValue-1, 0, entries(entry("a", 0), b1, c3))),
			goesOn("a conflict if From were old", b, at0(a5), at2(a5, 4, 4, 3, 0, entries(entry("a", 5), b1))),
			endsUnchanged("conflict", b, at1(a5, 1, 1), opCommit("main", 1, set("a", 5)), codeOnly(impl.ErrConflict, "a")),
			endsUnchanged("nothing", b, at0(wishCommit("main")), opCommit("main", 4), codeOnly(impl.ErrSame)),
			endsUnchanged("nothing again", b, at1(wishCommit("main"), 1, 2), opCommit("main", 1), codeOnly(impl.ErrSame)),
			endsUnchanged("done by others", b, at1(wishCommit("right", set("c", 3)), 4, 1), opCommit("right", 4, set("c", 3)), codeOnly(impl.ErrSame)),
			endsUnchanged("nothing, MaxValue", b, at0(wishCommit("top", set("a", 1))), opCommit("top", 2, set("a", 1)), codeOnly(impl.ErrSame)),
			endsUnchanged("no branch", b, at0(wishCommit("new", set("c", 3))), opCommit("new", 0, set("c", 3)), codeOnly(impl.ErrName)),
			endsUnchanged("no branch any more", b, at1(wishCommit("new", set("c", 3)), 4, 1), opCommit("new", 4, set("c", 3)), codeOnly(impl.ErrName)),
			endsUnchanged("gone", b, at0(wishCommit("old", set("c", 3))), opCommit("old", 0, set("c", 3)), codeOnly(impl.ErrName)),
			endsUnchanged("gone since", b, at1(wishCommit("old", set("c", 3)), 4, 3), opCommit("old", 4, set("c", 3)), codeOnly(impl.ErrName)),
		)
	}
	checkSteps(t, list)
}

func TestPromise8CommitLooksAtFullMaps(t *testing.T) {
	z, x1 := wishCommit("main", set("z", 1)), wishCommit("dev", set("x1", 1))
	swap := wishCommit("main", gone("k00"), set("z", 1))
	twelve, eleven := wide()[1].Map, wide()[2].Map
	list := []before{}
	for _, n := range []int{7, impl.MaxCommits} {
		b := base(padded(wide(), n), live("main", 2, 2), live("dev", 3, 3))
		list = append(list,
			goesOn("as many keys", b, at0(swap), at2(swap, 2, 2, 2, 0, append(slices.Clone(twelve[1:]), entry("z", 1)))),
			goesOn("one key more", b, at1(x1, 1, 1), at2(x1, 1, 3, 3, 1, modelOf(eleven).edited(x1.Edits).entries())),
			endsUnchanged("too many edited", b, at0(z), opCommit("main", 2, set("z", 1)), codeOnly(impl.ErrFull)),
			endsUnchanged("too many merged", b, at1(z, 1, 1), opCommit("main", 1, set("z", 1)), codeOnly(impl.ErrFull)),
			endsUnchanged("too many edited, of another head", b, at1(wishCommit("dev", set("z", 1)), 2, 1), opCommit("dev", 2, set("z", 1)), codeOnly(impl.ErrFull)),
		)
	}
	checkSteps(t, list)
}

func TestPromise8Merge(t *testing.T) {
	all := entries(entry("a", 2), entry("b", 2), entry("c", 3))
	list := []before{}
	for _, n := range []int{7, impl.MaxCommits} {
		b := base(padded(crossed(), n), crossedRefs()...)
		adds, moves, topMoves := wishMerge("left", "right"), wishMerge("main", "left"), wishMerge("top", "main")
		bad := wishMerge("main", "dev")
		list = append(list,
			goesOn("the head of Source", b, at0(adds), at1(adds, 7, 0)),
			goesOn("Name does not exist", b, at0(wishMerge("old", "main")), at1(wishMerge("old", "main"), 4, 0)),
			goesOn("itself", b, at0(wishMerge("main", "main")), at1(wishMerge("main", "main"), 4, 0)),
			endsUnchanged("no Source", b, at0(wishMerge("main", "none")), impl.Op{}, codeOnly(impl.ErrName)),
			endsUnchanged("Source is gone", b, at0(wishMerge("main", "old")), impl.Op{}, codeOnly(impl.ErrName)),
			endsUnchanged("neither exists", b, at0(wishMerge("new", "old")), impl.Op{}, codeOnly(impl.ErrName)),
			goesOn("a new commit", b, at1(adds, 7, 0), at2(adds, 7, 6, 9, 0, all)),
			goesOn("a new commit again", b, at1(adds, 7, 3), at2(adds, 7, 6, 9, 3, all)),
			goesOn("Source went", b, at1(wishMerge("left", "old"), 7, 1), at2(wishMerge("left", "old"), 7, 6, 9, 1, all)),
			goesOn("just moves", b, at1(moves, 6, 0), fast2(moves, 6, 4, 3, 0)),
			goesOn("just moves, MaxValue", b, at1(topMoves, 4, 2), fast2(topMoves, 4, 2, impl.MaxValue, 2)),
			endsUnchanged("conflict", b, at1(bad, 5, 0), opMerge("main", 5), codeOnly(impl.ErrConflict, "a")),
			endsUnchanged("itself", b, at1(wishMerge("main", "main"), 4, 0), opMerge("main", 4), codeOnly(impl.ErrSame)),
			endsUnchanged("an ancestor", b, at1(bad, 3, 2), opMerge("main", 3), codeOnly(impl.ErrSame)),
			endsUnchanged("an ancestor, MaxValue", b, at1(wishMerge("top", "dev"), 1, 0), opMerge("top", 1), codeOnly(impl.ErrSame)),
			endsUnchanged("no branch", b, at1(wishMerge("new", "dev"), 5, 0), opMerge("new", 5), codeOnly(impl.ErrName)),
			endsUnchanged("gone", b, at1(wishMerge("old", "dev"), 5, 3), opMerge("old", 5), codeOnly(impl.ErrName)),
		)
	}
	a1, b1 := entry("a", 1), entry("b", 1)
	contained := base([]impl.Commit{commit(nil), commit(entries(a1), 1), commit(entries(a1, b1), 1)}, live("main", 3, 1), live("dev", 2, 1))
	crowded := base(wide(), live("main", 2, 2), live("dev", 3, 3))
	list = append(list,
		endsUnchanged("changes nothing", contained, at1(wishMerge("main", "dev"), 2, 0), opMerge("main", 2), codeOnly(impl.ErrSame)),
		endsUnchanged("too many keys", crowded, at1(wishMerge("main", "dev"), 3, 0), opMerge("main", 3), codeOnly(impl.ErrFull)),
	)
	checkSteps(t, list)
}

// TestPromise8Acts has Phase 2 with a branch that did not change, or that does
// not exist any more.
func TestPromise8Acts(t *testing.T) {
	m := entries(entry("a", 1), entry("b", 1), entry("c", 3))
	all := entries(entry("a", 2), entry("b", 2), entry("c", 3))
	b, full := base(crossed(), crossedRefs()...), base(padded(crossed(), impl.MaxCommits), crossedRefs()...)
	c, top := wishCommit("main", set("c", 3)), wishCommit("top", set("c", 3))
	adds, moves, topMoves := wishMerge("left", "right"), wishMerge("main", "left"), wishMerge("top", "main")
	topMap := entries(entry("a", 1), entry("b", 0), entry("c", 3))
	list := []before{
		endsAs("commit", b, at2(c, 4, 4, 3, 0, m), opCommit("main", 4, set("c", 3)), impl.OK),
		endsAs("commit of an old From", b, at2(c, 1, 4, 3, 3, m), opCommit("main", 1, set("c", 3)), impl.OK),
		endsAs("merge", b, at2(adds, 7, 6, 9, 0, all), opMerge("left", 7), impl.OK),
		endsAs("merge that moves", b, fast2(moves, 6, 4, 3, 2), opMerge("main", 6), impl.OK),
		endsAs("commit, MaxCommits", full, at2(c, 4, 4, 3, 0, m), opCommit("main", 4, set("c", 3)), impl.ErrFull),
		endsAs("merge, MaxCommits", full, at2(adds, 7, 6, 9, 1, all), opMerge("left", 7), impl.ErrFull),
		endsAs("merge that moves, MaxCommits", full, fast2(moves, 6, 4, 3, 0), opMerge("main", 6), impl.OK),
		endsAs("commit, MaxValue", b, at2(top, 2, 2, impl.MaxValue, 0, topMap), opCommit("top", 2, set("c", 3)), impl.ErrFull),
		endsAs("merge that moves, MaxValue", b, fast2(topMoves, 4, 2, impl.MaxValue, 3), opMerge("top", 4), impl.ErrFull),
	}
	for _, name := range []string{"old", "new", "gone_top"} {
		for _, version := range []int{1, 2, 9, impl.MaxValue} {
			for tries := range impl.MaxRetries + 1 {
				w, x := wishCommit(name, set("c", 3)), wishMerge(name, "right")
				list = append(list,
					endsAs("commit without a branch", b, at2(w, 4, 4, version, tries, m), opCommit(name, 4, set("c", 3)), impl.ErrName),
					endsAs("merge without a branch", full, at2(x, 7, 6, version, tries, all), opMerge(name, 7), impl.ErrName),
					endsAs("merge that moves without a branch", full, fast2(x, 7, 4, version, tries), opMerge(name, 7), impl.ErrName))
			}
		}
	}
	checkSteps(t, list)
}

// TestPromise8Overtaken has Phase 2 with a branch that has another Version: a
// greater one, or one that no run leads to.
func TestPromise8Overtaken(t *testing.T) {
	m := entries(entry("a", 1), entry("b", 1), entry("c", 3))
	c, moves := wishCommit("main", set("c", 3)), wishMerge("main", "left")
	list := []before{}
	for _, n := range []int{7, impl.MaxCommits} {
		b := base(padded(crossed(), n), crossedRefs()...)
		for _, version := range []int{1, 2, 4, 5, impl.MaxValue} {
			for tries := range impl.MaxRetries {
				list = append(list,
					goesOn("commit", b, at2(c, 4, 4, version, tries, m), at1(c, 4, tries+1)),
					goesOn("commit of an old From", b, at2(c, 1, 4, version, tries, m), at1(c, 1, tries+1)),
					goesOn("merge", b, fast2(moves, 6, 4, version, tries), at1(moves, 6, tries+1)))
			}
			list = append(list,
				endsUnchanged("commit, last try", b, at2(c, 4, 4, version, impl.MaxRetries, m), impl.Op{}, codeOnly(impl.ErrRetries)),
				endsUnchanged("merge, last try", b, fast2(moves, 6, 4, version, impl.MaxRetries), impl.Op{}, codeOnly(impl.ErrRetries)))
		}
	}
	checkSteps(t, list)
}

// TestPromise8AnotherHead has clients that are valid though no run leads to
// them: the branch has the Version that they saw with another head.
func TestPromise8AnotherHead(t *testing.T) {
	b := base(crossed(), crossedRefs()...)
	c, moves := wishCommit("main", set("c", 3)), wishMerge("main", "left")
	a9 := wishCommit("main", set("a", 9))
	checkSteps(t, []before{
		endsAs("commit", b, at2(c, 1, 1, 3, 0, entries(entry("a", 0), entry("b", 0), entry("c", 3))), opCommit("main", 1, set("c", 3)), impl.OK),
		endsAs("conflict", b, at2(a9, 1, 3, 3, 0, entries(entry("a", 9), entry("b", 1))), opCommit("main", 1, set("a", 9)), impl.ErrConflict),
		endsAs("nothing to move", b, fast2(moves, 2, 1, 3, 0), opMerge("main", 2), impl.ErrSame),
	})
}

func TestPromise8Finished(t *testing.T) {
	b := base(crossed(), crossedRefs()...)
	for n := range impl.MaxWishes + 1 {
		c := finished(n)
		wantStepped(t, "StepClient", stepClient(b, c), stepped{b: b, c: c, code: impl.ErrDone})
		wantAlone(t, "RunAlone", runAlone(b, c), alone{b: b, c: c})
	}
	wantStepped(t, "StepClient of nothing", stepClient(b, impl.Client{}), stepped{b: b, code: impl.ErrDone})
	wantAlone(t, "RunAlone of nothing", runAlone(b, impl.Client{}), alone{b: b})
}

func TestPromise8SameClient(t *testing.T) {
	c := among(at2(wishCommit("main", set("c", 3)), 4, 4, 3, 1, numbered(2)))
	list := []impl.Client{{}, c, finished(1), finished(2), at0(wishScan("main")), at1(wishCreate("a", "b"), 1, 0)}
	change := func(change func(c *impl.Client)) {
		x := c
		x.Wishes, x.Map = slices.Clone(c.Wishes), slices.Clone(c.Map)
		change(&x)
		list = append(list, x)
	}
	for _, field := range []func(c *impl.Client) *int{
		func(c *impl.Client) *int { return &c.Done }, func(c *impl.Client) *int { return &c.Phase }, func(c *impl.Client) *int { return &c.From },
		func(c *impl.Client) *int { return &c.Head }, func(c *impl.Client) *int { return &c.Version }, func(c *impl.Client) *int { return &c.Tries },
		func(c *impl.Client) *int { return &c.Fast },
	} {
		change(func(c *impl.Client) { *field(c) += 100 })
		change(func(c *impl.Client) { *field(c) = -1 })
	}
	change(func(c *impl.Client) { c.Map = numbered(1) })
	change(func(c *impl.Client) { c.Map[1].Value = 9 })
	change(func(c *impl.Client) { c.Wishes = c.Wishes[:3] })
	change(func(c *impl.Client) { c.Wishes = append(c.Wishes, wishScan("main")) })
	for i, w := range []impl.Wish{wishScan("dev"), wishGet("main", "a"), wishGet("main", "b"), wishCreate("x", "z"), wishMerge("x", "y"), wishCommit("main"), wishCommit("main", set("c", 4))} {
		change(func(c *impl.Client) { c.Wishes[i%4] = w })
	}
	for i, a := range list {
		for j, b := range list {
			if impl.SameClient(a, b) != (i == j) {
				t.Error("SameClient", i, j, i != j)
			}
		}
	}
	// Too many wishes are not a valid client, but each of them is valid.
	if many := finished(impl.MaxWishes + 1); !impl.SameClient(many, finished(impl.MaxWishes+1)) || impl.SameClient(many, finished(impl.MaxWishes)) {
		t.Error("SameClient of many wishes")
	}
	if copied := c; !impl.SameClient(c, copied) || !sameClients(c, copied) {
		t.Error("SameClient of equal clients")
	}
}

func TestPromise8SameClientInvalid(t *testing.T) {
	for i, w := range badWishes() {
		for _, bad := range []impl.Client{at0(w), {Wishes: wishes(wishScan("a"), w)}} {
			if impl.SameClient(bad, bad) || impl.SameClient(bad, at0(wishScan("a"))) || impl.SameClient(at0(wishScan("a")), bad) {
				t.Error("SameClient of an invalid wish", i)
			}
		}
	}
	for _, v := range mapCases() {
		x := at2(wishScan("a"), 1, 1, 1, 1, v.m)
		if impl.SameClient(x, x) == v.bad {
			t.Error("SameClient of a map", v.name)
		}
	}
}

func TestPromise8SameMoment(t *testing.T) {
	full := impl.Moment{Client: 1, Wish: 2, Step: 3, Op: impl.Op{Kind: 4, From: 5, Name: "a", Key: "b", Edits: numberedEdits(2)}, Result: impl.Result{Code: 6, Commit: 7, Value: 8, Keys: []string{"c"}, Map: numbered(1)}}
	list := []impl.Moment{{}, full}
	for _, change := range []func(m *impl.Moment){
		func(m *impl.Moment) { m.Client++ }, func(m *impl.Moment) { m.Wish++ }, func(m *impl.Moment) { m.Step++ },
		func(m *impl.Moment) { m.Op = impl.Op{} }, func(m *impl.Moment) { m.Op.Kind++ }, func(m *impl.Moment) { m.Op.From++ },
		func(m *impl.Moment) { m.Op.Name = "x" }, func(m *impl.Moment) { m.Op.Key = "x" }, func(m *impl.Moment) { m.Op.Edits = nil },
		func(m *impl.Moment) { m.Op.Edits = numberedEdits(3) }, func(m *impl.Moment) { m.Op.Edits = []impl.Edit{set("k00", 0), gone("k01")} },
		func(m *impl.Moment) { m.Result = impl.Result{} }, func(m *impl.Moment) { m.Result.Code++ }, func(m *impl.Moment) { m.Result.Commit++ },
		func(m *impl.Moment) { m.Result.Value++ }, func(m *impl.Moment) { m.Result.Keys = []string{"d"} }, func(m *impl.Moment) { m.Result.Map = nil },
	} {
		m := full
		change(&m)
		list = append(list, m)
	}
	for i, a := range list {
		for j, b := range list {
			if impl.SameMoment(a, b) != (i == j) {
				t.Error("SameMoment", i, j, i != j)
			}
		}
	}
	for _, v := range editCases() {
		x := impl.Moment{Op: impl.Op{Edits: v.list}}
		if impl.SameMoment(x, x) == v.bad {
			t.Error("SameMoment of edits", v.name)
		}
	}
	for _, r := range []impl.Result{{Keys: make([]string, 25)}, {Map: numbered(impl.MaxKeys + 1)}} {
		if x := (impl.Moment{Result: r}); impl.SameMoment(x, x) {
			t.Error("SameMoment of an invalid result", len(r.Keys), len(r.Map))
		}
	}
}

func TestPromise8Limits(t *testing.T) {
	if impl.MaxRetries != 3 || impl.MaxWishes != 6 {
		t.Error("limits", impl.MaxRetries, impl.MaxWishes)
	}
}
