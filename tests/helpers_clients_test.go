package tests

import (
	"math"
	"slices"
	"strings"

	"loop.example/g00737/impl"
)

func wishCreate(name, source string) impl.Wish {
	return impl.Wish{Kind: impl.OpCreate, Name: name, Source: source}
}

func wishDelete(name string) impl.Wish { return impl.Wish{Kind: impl.OpDelete, Name: name} }

func wishCommit(name string, edits ...impl.Edit) impl.Wish {
	return impl.Wish{Kind: impl.OpCommit, Name: name, Edits: edits}
}

func wishMerge(name, source string) impl.Wish {
	return impl.Wish{Kind: impl.OpMerge, Name: name, Source: source}
}

func wishGet(name, key string) impl.Wish {
	return impl.Wish{Kind: impl.OpGet, Name: name, Key: key}
}

func wishScan(name string) impl.Wish { return impl.Wish{Kind: impl.OpScan, Name: name} }

func wishes(list ...impl.Wish) []impl.Wish { return list }

// wishKinds has a valid wish of each Kind.
func wishKinds(name, source string) []impl.Wish {
	return wishes(wishCreate(name, source), wishDelete(name), wishCommit(name, set("a", 1)), wishMerge(name, source), wishGet(name, "a"), wishScan(name))
}

// wishesFor has wishes of every Kind for these branches.
func wishesFor(names, sources []string, edits [][]impl.Edit) []impl.Wish {
	list := wishes()
	for _, name := range names {
		list = append(list, wishDelete(name), wishScan(name), wishGet(name, "a"), wishGet(name, "k00"), wishGet(name, "none"))
		for _, source := range sources {
			list = append(list, wishCreate(name, source), wishMerge(name, source))
		}
		for _, e := range edits {
			list = append(list, wishCommit(name, e...))
		}
	}
	return list
}

func validWishes() []impl.Wish {
	sources := []string{"main", "dev", "left", "right", "top", "near", "old", "new"}
	return wishesFor(append(sources, "gone_top", "abcdefghijkl"), sources, validEdits())
}

// fewWishes still has branches of every state.
func fewWishes() []impl.Wish {
	edits := [][]impl.Edit{nil, {set("b", 1)}, {set("a", 2), set("b", 5)}, {gone("k00"), set("z", 9)}, {set("p1", 1), set("p2", 1), set("p3", 1)}}
	return wishesFor([]string{"main", "dev", "top", "near", "old", "new"}, []string{"right", "new"}, edits)
}

// badWishes breaks valid wishes in one field each.
func badWishes() []impl.Wish {
	list := wishes(impl.Wish{}, impl.Wish{Name: "a"}, impl.Wish{Name: "a", Source: "a"}, impl.Wish{Kind: 7, Name: "a", Source: "a", Key: "a", Edits: []impl.Edit{set("a", 1)}})
	broken := func(w impl.Wish, change func(w *impl.Wish)) {
		change(&w)
		list = append(list, w)
	}
	noNames := []string{"1", "a b", "abcdefghijklm", strings.Repeat("a", impl.MaxText+1)}
	for _, w := range wishKinds("a", "b") {
		for _, kind := range []int{0, 7, -1, -w.Kind, w.Kind + 256, math.MaxInt, math.MinInt} {
			broken(w, func(w *impl.Wish) { w.Kind = kind })
		}
		for _, name := range append(noNames, "") {
			broken(w, func(w *impl.Wish) { w.Name = name })
		}
		for _, source := range append(noNames, map[bool]string{true: "", false: "b"}[w.Source != ""]) {
			broken(w, func(w *impl.Wish) { w.Source = source })
		}
		for _, key := range badKeys(w.Kind) {
			broken(w, func(w *impl.Wish) { w.Key = key })
		}
		for _, edits := range badEdits(w.Kind) {
			broken(w, func(w *impl.Wish) { w.Edits = edits })
		}
	}
	return list
}

// at0, at1 and at2 are clients with one wish in each Phase.
func at0(w impl.Wish) impl.Client { return impl.Client{Wishes: wishes(w)} }

func at1(w impl.Wish, from, tries int) impl.Client {
	return impl.Client{Wishes: wishes(w), Phase: 1, From: from, Tries: tries}
}

func at2(w impl.Wish, from, head, version, tries int, m []impl.Entry) impl.Client {
	return impl.Client{Wishes: wishes(w), Phase: 2, From: from, Head: head, Version: version, Tries: tries, Map: m}
}

// fast2 is in Phase 2 of a merge that just moves the head.
func fast2(w impl.Wish, from, head, version, tries int) impl.Client {
	c := at2(w, from, head, version, tries, nil)
	c.Fast = 1
	return c
}

// among puts the wish of a client between others.
func among(c impl.Client) impl.Client {
	c.Wishes = wishes(wishScan("main"), wishCreate("x", "y"), c.Wishes[0], wishDelete("main"))
	c.Done += 2
	return c
}

func finished(n int) impl.Client {
	return impl.Client{Wishes: slices.Repeat(wishes(wishScan("main")), n), Done: n}
}

// stepped has the results of a step.
type stepped struct {
	b    impl.Base
	c    impl.Client
	m    impl.Moment
	code int
}

func stepClient(b impl.Base, c impl.Client) stepped {
	next, x, m, code := impl.StepClient(b, c)
	return stepped{next, x, m, code}
}

// alone has the results of all steps.
type alone struct {
	b    impl.Base
	c    impl.Client
	list []impl.Moment
	code int
}

func runAlone(b impl.Base, c impl.Client) alone {
	next, x, list, code := impl.RunAlone(b, c)
	return alone{next, x, list, code}
}

func sameWishes(a, b impl.Wish) bool {
	return a.Kind == b.Kind && a.Name == b.Name && a.Source == b.Source && a.Key == b.Key && slices.Equal(a.Edits, b.Edits)
}

// numbersOf has all fields of a client that are numbers.
func numbersOf(c impl.Client) [7]int {
	return [7]int{c.Done, c.Phase, c.From, c.Head, c.Version, c.Tries, c.Fast}
}

func sameClients(a, b impl.Client) bool {
	return slices.EqualFunc(a.Wishes, b.Wishes, sameWishes) && numbersOf(a) == numbersOf(b) && slices.Equal(a.Map, b.Map)
}

func sameOps(a, b impl.Op) bool {
	return a.Kind == b.Kind && a.From == b.From && a.Name == b.Name && a.Key == b.Key && slices.Equal(a.Edits, b.Edits)
}

func sameMoments(a, b impl.Moment) bool {
	return a.Client == b.Client && a.Wish == b.Wish && a.Step == b.Step && sameOps(a.Op, b.Op) && sameResults(a.Result, b.Result)
}

func sameStepped(a, b stepped) bool {
	return a.code == b.code && sameBases(a.b, b.b) && sameClients(a.c, b.c) && sameMoments(a.m, b.m)
}

func sameAlone(a, b alone) bool {
	return a.code == b.code && sameBases(a.b, b.b) && sameClients(a.c, b.c) && slices.EqualFunc(a.list, b.list, sameMoments)
}

// look is what a model knows of the commit that an operation would add.
type look struct {
	code, fast int
	keys       []string
	m          []impl.Entry
}

func modelLook(store []impl.Commit, w impl.Wish, from, head int) look {
	m, x := modelOf(store[head-1].Map), merge{}
	if w.Kind == impl.OpMerge {
		sets := ancestorSets(store)
		switch id := greatest(sets[from] & sets[head]); id {
		case from:
			return look{code: impl.ErrSame}
		case head:
			return look{fast: 1}
		default:
			x = mergeOf(modelOf(store[id-1].Map), m, modelOf(store[from-1].Map))
		}
	} else {
		edited := modelOf(store[from-1].Map).edited(w.Edits)
		if len(edited) > impl.MaxKeys {
			return look{code: impl.ErrFull}
		}
		x = mergeOf(modelOf(store[from-1].Map), edited, m)
	}
	switch {
	case x.code != 0:
		return look{code: x.code, keys: x.keys}
	case slices.Equal(x.m, store[head-1].Map):
		return look{code: impl.ErrSame}
	}
	return look{m: x.m}
}

// modelValid is for a valid repository and a client with valid wishes.
func modelValid(b impl.Base, c impl.Client) bool {
	within := func(v, low, high int) bool { return v >= low && v <= high }
	n := len(b.Store)
	if len(c.Wishes) > impl.MaxWishes || !within(c.Done, 0, len(c.Wishes)) {
		return false
	}
	if c.Phase == 0 {
		return sameClients(c, impl.Client{Wishes: c.Wishes, Done: c.Done})
	}
	if c.Done == len(c.Wishes) || !within(c.From, 1, n) || !within(c.Tries, 0, impl.MaxRetries) {
		return false
	}
	w := c.Wishes[c.Done]
	tries := map[int][]int{impl.OpCreate: {0}, impl.OpCommit: {1, 2, 3}, impl.OpMerge: {0, 1, 2, 3}}[w.Kind]
	switch {
	case c.Phase == 1:
		return slices.Contains(tries, c.Tries) && sameClients(c, impl.Client{Wishes: c.Wishes, Done: c.Done, Phase: 1, From: c.From, Tries: c.Tries})
	case c.Phase == 2 && (w.Kind == impl.OpCommit || w.Kind == impl.OpMerge) && within(c.Head, 1, n) && within(c.Version, 1, impl.MaxValue):
		x := modelLook(b.Store, w, c.From, c.Head)
		return x.code == 0 && x.fast == c.Fast && slices.Equal(x.m, c.Map)
	}
	return false
}

// modelStep is for a valid repository and a client that is valid for it.
func modelStep(b impl.Base, c impl.Client) stepped {
	if c.Done == len(c.Wishes) {
		return stepped{b: b, c: c, code: impl.ErrDone}
	}
	w := c.Wishes[c.Done]
	f, source := findRef(b.Refs, w.Name), findRef(b.Refs, w.Source)
	switch {
	case c.Phase == 0 && w.Source != "" && !source.live:
		return modelEnd(b, c, impl.Op{}, impl.Result{Code: impl.ErrName})
	case c.Phase == 0 && w.Source != "":
		c.Phase, c.From = 1, source.ref.Head
		return stepped{b: b, c: c}
	case c.Phase < 2 && (w.Kind == impl.OpCommit || w.Kind == impl.OpMerge):
		return modelLookStep(b, c, f)
	case c.Phase == 2 && f.live && f.ref.Version != c.Version && c.Tries == impl.MaxRetries:
		return modelEnd(b, c, impl.Op{}, impl.Result{Code: impl.ErrRetries})
	case c.Phase == 2 && f.live && f.ref.Version != c.Version:
		return stepped{b: b, c: impl.Client{Wishes: c.Wishes, Done: c.Done, Phase: 1, From: c.From, Tries: c.Tries + 1}}
	}
	x := modelDo(b, modelOp(c))
	return modelEnd(x.b, c, modelOp(c), x.r)
}

func modelOp(c impl.Client) impl.Op {
	w := c.Wishes[c.Done]
	return impl.Op{Kind: w.Kind, From: c.From, Name: w.Name, Key: w.Key, Edits: w.Edits}
}

func modelEnd(b impl.Base, c impl.Client, o impl.Op, r impl.Result) stepped {
	return stepped{b: b, c: impl.Client{Wishes: c.Wishes, Done: c.Done + 1}, m: impl.Moment{Wish: c.Done + 1, Op: o, Result: r}}
}

func modelLookStep(b impl.Base, c impl.Client, f found) stepped {
	if !f.live {
		return modelEnd(b, c, modelOp(c), impl.Result{Code: impl.ErrName})
	}
	if c.From == 0 {
		c.From = f.ref.Head
	}
	x := modelLook(b.Store, c.Wishes[c.Done], c.From, f.ref.Head)
	if x.code != 0 {
		return modelEnd(b, c, modelOp(c), impl.Result{Code: x.code, Keys: x.keys})
	}
	c.Phase, c.Head, c.Version, c.Fast, c.Map = 2, f.ref.Head, f.ref.Version, x.fast, x.m
	return stepped{b: b, c: c}
}

// midway has valid clients with this wish in every Phase, also such whose
// branch got another head or Version since they looked.
func midway(b impl.Base, w impl.Wish) []impl.Client {
	list := []impl.Client{at0(w)}
	add := func(c impl.Client) {
		if modelValid(b, c) {
			list = append(list, c)
		}
	}
	version := findRef(b.Refs, w.Name).ref.Version
	for _, from := range someCommits(b) {
		for tries := range impl.MaxRetries + 1 {
			add(at1(w, from, tries))
		}
		for _, head := range someCommits(b) {
			if w.Kind != impl.OpCommit && w.Kind != impl.OpMerge {
				continue
			}
			x := modelLook(b.Store, w, from, head)
			for _, v := range []int{1, version, version + 1, impl.MaxValue} {
				for _, tries := range []int{0, impl.MaxRetries - 1, impl.MaxRetries} {
					c := at2(w, from, head, v, tries, x.m)
					c.Fast = x.fast
					add(c)
				}
			}
		}
	}
	return list
}

func someCommits(b impl.Base) []int {
	list := []int{}
	for _, id := range []int{1, 2, 5, 6, len(b.Store)} {
		if id <= len(b.Store) && !slices.Contains(list, id) {
			list = append(list, id)
		}
	}
	return list
}

// brokenClients changes one field of a client at a time. What results may be
// valid.
func brokenClients(b impl.Base, c impl.Client) []impl.Client {
	list := []impl.Client{}
	n := len(b.Store)
	broken := func(values []int, field func(c *impl.Client) *int) {
		for _, v := range values {
			x := c
			*field(&x) = v
			list = append(list, x)
		}
	}
	broken([]int{math.MinInt, -1, 0, 1, 2, 3, 4, 5, 6, 7, math.MaxInt}, func(c *impl.Client) *int { return &c.Done })
	broken([]int{math.MinInt, -1, 0, 1, 2, 3, math.MaxInt}, func(c *impl.Client) *int { return &c.Phase })
	commits := []int{math.MinInt, -1, 0, 1, 2, 3, 4, n, n + 1, impl.MaxCommits, impl.MaxCommits + 1, math.MaxInt}
	broken(commits, func(c *impl.Client) *int { return &c.From })
	broken(commits, func(c *impl.Client) *int { return &c.Head })
	broken(versions(), func(c *impl.Client) *int { return &c.Version })
	broken([]int{math.MinInt, -1, 0, 1, 2, 3, 4, math.MaxInt}, func(c *impl.Client) *int { return &c.Tries })
	broken([]int{math.MinInt, -1, 0, 1, 2, math.MaxInt}, func(c *impl.Client) *int { return &c.Fast })
	for _, m := range [][]impl.Entry{nil, {}, numbered(1), b.Store[0].Map, b.Store[n-1].Map, numbered(impl.MaxKeys + 1), append(slices.Clone(c.Map), entry("zz", 1)), c.Map[:len(c.Map)/2]} {
		x := c
		x.Map = m
		list = append(list, x)
	}
	for _, w := range wishKinds("main", "dev") {
		x := c
		x.Wishes = slices.Clone(c.Wishes)
		x.Wishes[min(c.Done, len(x.Wishes)-1)] = w
		list = append(list, x)
	}
	return list
}
