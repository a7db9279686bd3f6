package tests

import (
	"fmt"
	"math"
	"slices"
	"strings"
	"testing"

	"loop.example/g00737/impl"
)

func wantResultText(t *testing.T, r impl.Result, want texts) {
	t.Helper()
	if got := resultText(r); got != want {
		t.Fatalf("ResultText %v: %v; want %v", r, got, want)
	}
}

func wantMomentText(t *testing.T, m impl.Moment, want texts) {
	t.Helper()
	if got := momentText(m); got != want {
		t.Fatalf("MomentText %v: %v; want %v", m, got, want)
	}
}

func wantLines(t *testing.T, what string, b impl.Base, want ...string) {
	t.Helper()
	if got, code := impl.BaseLines(b); !slices.Equal(got, want) || code != 0 {
		t.Fatalf("BaseLines %s: %q %d; want %q", what, got, code, want)
	}
}

func noText() texts { return texts{code: impl.ErrBad} }

func TestPromise15ResultExamples(t *testing.T) {
	for text, r := range map[string]impl.Result{
		"ok":                       {},
		"same":                     codeOnly(impl.ErrSame),
		"ok commit 1":              {Commit: 1},
		"ok commit 60":             {Commit: 60},
		"ok value 5":               {Value: 5},
		"ok value -1000000":        {Value: -impl.MaxValue},
		"ok commit 3 value 7":      {Commit: 3, Value: 7},
		"ok keys a":                {Keys: []string{"a"}},
		"conflict keys b,a,b":      codeOnly(impl.ErrConflict, "b", "a", "b"),
		"ok map a=0":               {Map: entries(entry("a", 0))},
		"ok commit 2 map A=-1,a=1": {Commit: 2, Map: entries(entry("A", -1), entry("a", 1))},
		"full commit 1 value -1 keys z,y map a=1,b=2": {Code: 7, Commit: 1, Value: -1, Keys: []string{"z", "y"}, Map: entries(entry("a", 1), entry("b", 2))},
	} {
		wantResultText(t, r, texts{t: text})
	}
	wantResultText(t, impl.Result{Keys: []string{}, Map: entries()}, texts{t: "ok"})
	for code, word := range strings.Fields("ok bad long form range none many full size kind name conflict retries stale exists done order lag same") {
		m := entries(entry("a", 1), entry("b", -2))
		wantResultText(t, codeOnly(code), texts{t: word})
		wantResultText(t, impl.Result{Code: code, Commit: 9}, texts{t: word + " commit 9"})
		wantResultText(t, impl.Result{Code: code, Value: -9}, texts{t: word + " value -9"})
		wantResultText(t, codeOnly(code, "k", "j"), texts{t: word + " keys k,j"})
		wantResultText(t, impl.Result{Code: code, Map: m}, texts{t: word + " map a=1,b=-2"})
		wantResultText(t, impl.Result{Code: code, Commit: 9, Value: -9, Keys: []string{"k"}, Map: m}, texts{t: word + " commit 9 value -9 keys k map a=1,b=-2"})
	}
}

// resultKeys has Keys that a result may have, in any order, and others.
func resultKeys() [][]string {
	list := [][]string{nil, {}, {"a"}, {"b", "a"}, {"a", "a"}, slices.Repeat([]string{"abcdefghijkl"}, 24), slices.Repeat([]string{"a"}, 25), make([]string, 1), make([]string, 24), make([]string, 25), make([]string, impl.MaxList+1)}
	for _, key := range []string{"", "1", "a b", "a,b", "-", "abcdefghijklm", "\u00e9", strings.Repeat("a", impl.MaxText+1)} {
		list = append(list, []string{key}, []string{"a", key}, append(slices.Repeat([]string{"a"}, 23), key))
	}
	return list
}

func TestPromise15EveryResult(t *testing.T) {
	printed, lists, maps := 0, resultKeys(), mapCases()
	for _, code := range []int{math.MinInt, -1, 0, 1, 11, 18, 19, 256, math.MaxInt} {
		for _, id := range []int{math.MinInt, -1, 0, 1, 59, impl.MaxCommits, impl.MaxCommits + 1, math.MaxInt} {
			for _, v := range values() {
				for i, keys := range lists {
					for j, c := range maps {
						if i > 6 && j > 6 {
							continue
						}
						r := impl.Result{Code: code, Commit: id, Value: v, Keys: keys, Map: c.m}
						want := modelResultText(r)
						wantResultText(t, r, want)
						printed += first(want.code == 0, 1)
					}
				}
			}
		}
	}
	if printed < 1000 {
		t.Error("results with a text", printed)
	}
}

// TestPromise15OneWrong breaks one field of a result at a time.
func TestPromise15OneWrong(t *testing.T) {
	full := impl.Result{Code: 11, Commit: 60, Value: -impl.MaxValue, Keys: slices.Repeat([]string{"k"}, 24), Map: numbered(impl.MaxKeys)}
	wantResultText(t, full, modelResultText(full))
	for code := -2; code <= 300; code++ {
		r := full
		r.Code = code
		wantResultText(t, r, modelResultText(r))
	}
	for id := -2; id <= 300; id++ {
		r := full
		r.Commit = id
		wantResultText(t, r, modelResultText(r))
	}
	for _, v := range badValues() {
		r := full
		r.Value = v
		wantResultText(t, r, noText())
	}
	for n := range 30 {
		r := full
		r.Keys = slices.Repeat([]string{"k"}, n)
		wantResultText(t, r, modelResultText(r))
	}
	for i := range full.Keys {
		r := full
		r.Keys = slices.Clone(full.Keys)
		r.Keys[i] = ""
		wantResultText(t, r, noText())
	}
	for _, c := range mapCases() {
		r := full
		r.Map = c.m
		wantResultText(t, r, modelResultText(r))
	}
}

func TestPromise15BaseExamples(t *testing.T) {
	wantLines(t, "least", base([]impl.Commit{{}}), "commit 1 map -")
	wantLines(t, "new", base([]impl.Commit{commit(entries(entry("a", -1)))}, live("main", 1, 1)), "commit 1 map a=-1", "branch main version 1 head 1")
	wantLines(t, "parents", base([]impl.Commit{{}, commit(nil, 1), commit(entries(entry("a", 0), entry("b", 5)), 2, 1), commit(nil, 1, 3)}),
		"commit 1 map -", "commit 2 of 1 map -", "commit 3 of 2 of 1 map a=0,b=5", "commit 4 of 1 of 3 map -")
	wantLines(t, "branches", base(line(1)[:1], live("z", 1, impl.MaxValue), deleted("abcdefghijkl", 7), live("a", 1, 2)),
		modelLines(base(line(1)))[0], "branch z version 1000000 head 1", "branch abcdefghijkl version 7 gone", "branch a version 2 head 1")
	lines, _ := impl.BaseLines(base(ladder(impl.MaxCommits), live("main", impl.MaxCommits, 1)))
	if len(lines) != 61 || !strings.HasPrefix(lines[59], "commit 60 of ") || lines[60] != "branch main version 1 head 60" {
		t.Errorf("BaseLines of 60 commits: %q", lines)
	}
}

func TestPromise15EveryBase(t *testing.T) {
	for _, c := range baseCases() {
		if !c.bad {
			wantLines(t, c.name, c.b, modelLines(c.b)...)
			continue
		}
		if lines, code := impl.BaseLines(c.b); len(lines) > 0 || code != impl.ErrBad {
			t.Fatalf("BaseLines %s: %q %d", c.name, lines, code)
		}
	}
	for i, store := range grownStores() {
		b := base(store, someRefs()...)
		wantLines(t, fmt.Sprint("grown ", i), b, modelLines(b)...)
	}
	everyStore(3, func(store []impl.Commit) {
		b := base(store, live("main", 3, 3), deleted("old", 2))
		wantLines(t, fmt.Sprint(store), b, modelLines(b)...)
	})
	full := base(line(1))
	for i := range impl.MaxRefs {
		full.Refs = append(full.Refs, deleted(fmt.Sprint("b", 9-i), i+1))
	}
	wantLines(t, "all branches gone", full, modelLines(full)...)
}

func TestPromise15MomentExamples(t *testing.T) {
	for text, m := range map[string]impl.Moment{
		"step 0 client 0 wish 0: ok":                                            {},
		"step 1000000 client 5 wish 6: name":                                    {Step: impl.MaxValue, Client: 5, Wish: 6, Result: codeOnly(impl.ErrName)},
		"step 1 client 2 wish 3 create dev from 60: ok commit 60":               {Step: 1, Client: 2, Wish: 3, Op: opCreate("dev", 60), Result: impl.Result{Commit: 60}},
		"step 1 client 1 wish 1 delete dev: ok commit 2":                        {Step: 1, Client: 1, Wish: 1, Op: opDelete("dev"), Result: impl.Result{Commit: 2}},
		"step 2 client 1 wish 1 commit main: conflict keys a,b":                 {Step: 2, Client: 1, Wish: 1, Op: opCommit("main", 0, set("a", 1)), Result: codeOnly(impl.ErrConflict, "a", "b")},
		"step 2 client 1 wish 1 commit main from 1: same":                       {Step: 2, Client: 1, Wish: 1, Op: opCommit("main", 1), Result: codeOnly(impl.ErrSame)},
		"step 9 client 3 wish 2 merge main from 7: full":                        {Step: 9, Client: 3, Wish: 2, Op: opMerge("main", 7), Result: codeOnly(impl.ErrFull)},
		"step 9 client 3 wish 2 get main: ok commit 1 value -5":                 {Step: 9, Client: 3, Wish: 2, Op: opGet("main", "a"), Result: impl.Result{Commit: 1, Value: -5}},
		"step 9 client 3 wish 2 scan _x: ok commit 1 map a=1":                   {Step: 9, Client: 3, Wish: 2, Op: opScan("_x"), Result: impl.Result{Commit: 1, Map: entries(entry("a", 1))}},
		"step 4 client 0 wish 0 scan main: retries commit 1 value 2 keys k":     {Step: 4, Op: opScan("main"), Result: impl.Result{Code: 12, Commit: 1, Value: 2, Keys: []string{"k"}}},
		"step 4 client 1 wish 1: none":                                          {Step: 4, Client: 1, Wish: 1, Op: impl.Op{From: 99, Name: "1", Key: "a b", Edits: []impl.Edit{{}}}, Result: codeOnly(impl.ErrNone)},
		"step 4 client 1 wish 1: ok commit 3":                                   {Step: 4, Client: 1, Wish: 1, Op: impl.Op{From: 3, Name: "main"}, Result: impl.Result{Commit: 3}},
		"step 10 client 1 wish 1 commit abcdefghijkl from 60: bad":              {Step: 10, Client: 1, Wish: 1, Op: opCommit("abcdefghijkl", 60, numberedEdits(6)...), Result: codeOnly(impl.ErrBad)},
		"step 10 client 1 wish 1 get a: ok keys a map k00=0,k01=1":              {Step: 10, Client: 1, Wish: 1, Op: opGet("a", "b"), Result: impl.Result{Keys: []string{"a"}, Map: numbered(2)}},
		"step 7 client 1 wish 0 delete gone: stale":                             {Step: 7, Client: 1, Op: opDelete("gone"), Result: codeOnly(impl.ErrStale)},
		"step 0 client 5 wish 0 merge a from 1: ok":                             {Client: 5, Op: opMerge("a", 1)},
		"step 0 client 0 wish 6 create a from 1: exists commit 1 value 1000000": {Wish: 6, Op: opCreate("a", 1), Result: impl.Result{Code: 14, Commit: 1, Value: impl.MaxValue}},
	} {
		wantMomentText(t, m, texts{t: text})
	}
}

func TestPromise15Limits(t *testing.T) {
	for _, o := range append(kinds("main"), impl.Op{}, opCommit("main", 0)) {
		good := impl.Moment{Client: 1, Wish: 1, Step: 1, Op: o, Result: impl.Result{Commit: 1}}
		wantMomentText(t, good, modelMomentText(good))
		for _, v := range []int{math.MinInt, -impl.MaxValue, -2, -1, 0, 1, 2, 3, 4, 5, 6, 7, 8, 60, 256, impl.MaxValue - 1, impl.MaxValue, impl.MaxValue + 1, 1 << 32, math.MaxInt} {
			for field := range 3 {
				m := good
				*[]*int{&m.Client, &m.Wish, &m.Step}[field] = v
				wantMomentText(t, m, modelMomentText(m))
				most := []int{impl.MaxClients, impl.MaxWishes, impl.MaxValue}[field]
				if got := momentText(m); (got.code == 0) != (v >= 0 && v <= most) {
					t.Fatal("MomentText", m, got)
				}
			}
		}
	}
}

func TestPromise15MomentsOfOps(t *testing.T) {
	for _, o := range slices.Concat(validOps(), badOps(), []impl.Op{opCommit("main", 60), opCreate("a", 60)}) {
		m := impl.Moment{Client: 1, Wish: 2, Step: 3, Op: o}
		wantMomentText(t, m, modelMomentText(m))
		m.Result = impl.Result{Code: 11, Commit: 4, Value: 5, Keys: []string{"a"}, Map: numbered(1)}
		wantMomentText(t, m, modelMomentText(m))
		if o.Kind == 0 {
			wantMomentText(t, m, texts{t: "step 3 client 1 wish 2: conflict commit 4 value 5 keys a map k00=0"})
		}
	}
}

// TestPromise15MomentsOfResults expects that a moment has a text if its result
// has one.
func TestPromise15MomentsOfResults(t *testing.T) {
	try := func(r impl.Result) {
		for _, o := range []impl.Op{{}, opScan("main"), opMerge("main", 2)} {
			m := impl.Moment{Op: o, Result: r}
			wantMomentText(t, m, modelMomentText(m))
		}
		one := resultText(r)
		if got := momentText(impl.Moment{Result: r}); got.code != one.code || got.code == 0 && got.t != "step 0 client 0 wish 0: "+one.t {
			t.Fatal("MomentText", r, got, one)
		}
	}
	for code := -1; code < 21; code++ {
		try(codeOnly(code))
	}
	for _, v := range append(values(), 59, 60, 61) {
		try(impl.Result{Value: v})
		try(impl.Result{Commit: v})
	}
	for _, keys := range resultKeys() {
		try(impl.Result{Code: 11, Keys: keys})
	}
	for _, c := range mapCases() {
		try(impl.Result{Commit: 1, Map: c.m})
	}
}
