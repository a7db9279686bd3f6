package tests

import (
	"fmt"
	"math/rand/v2"
	"slices"
	"strings"
	"sync"
	"testing"

	"loop.example/g00737/impl"
)

func (x heard) over() {
	overWorld(x.w)()
	overKeys(x.said)()
}

// busyLines lead to a world whose clients, watches and moments are alike.
func busyLines() []string {
	lines := all("do commit main a=1,b=2", "do create dev main", "watch main", "watch main", "watch dev")
	for range 3 {
		lines = append(lines, "client", "wish commit main c=3", "wish commit main c=4", "wish scan main", "wish merge dev main", "wish get dev c")
	}
	return append(lines, "step 1 2 3 1 2 3 1 2 3", "base", "tally", "events 1")
}

// lineCases has sessions, lines that are errors, and too many lines.
func lineCases() [][]string {
	list := [][]string{nil, {}, {""}, {"#"}, busyLines(), append(busyLines(), "finish", "base"), make([]string, 80), make([]string, 81), make([]string, impl.MaxList), make([]string, impl.MaxList+1), {strings.Repeat("x", impl.MaxText+1), "tally"}}
	for _, line := range shortLines() {
		list = append(list, all(line), all("client", "watch main", line, line))
	}
	for seed := range 30 {
		r := rand.New(rand.NewPCG(1, uint64(14+seed)))
		list = append(list, anyScript(r, r.IntN(impl.MaxLines+1)))
	}
	return list
}

func (w *arguments) addLines() {
	for _, lines := range lineCases() {
		x := guard(lines, "tally")
		w.lines = append(w.lines, x)
		w.linesBefore = append(w.linesBefore, slices.Clone(whole(x)))
	}
}

func (w *arguments) changedLines() string {
	for i, lines := range w.lines {
		if !slices.Equal(whole(lines), w.linesBefore[i]) {
			return fmt.Sprint("lines ", i)
		}
	}
	return ""
}

func (w *arguments) consoleCalls() []call {
	calls := []call{}
	for i, lines := range w.lines {
		calls = append(calls, call{fmt.Sprint("RunLines ", i), func() (string, func()) {
			x := runLines(lines...)
			return fmt.Sprint(x), x.over
		}}, call{fmt.Sprint("Console ", i), func() (string, func()) {
			text, code := impl.Console(strings.Join(lines, "\n"))
			return fmt.Sprint(text, code), nothing
		}})
	}
	for _, text := range all(strings.Repeat("\n", impl.MaxText), strings.Repeat(" ", impl.MaxText), strings.Repeat("x", impl.MaxText+1)) {
		calls = append(calls, call{"Console " + brief(text), func() (string, func()) {
			said, code := impl.Console(text)
			return fmt.Sprint(said, code), nothing
		}})
	}
	return calls
}

// TestPromise1SessionsAreNew overwrites the results of a session, which must
// reach neither each other nor those of another session.
func TestPromise1SessionsAreNew(t *testing.T) {
	for i, lines := range [][]string{busyLines(), append(busyLines(), "finish", "events 3"), busyLines()[:19], busyLines()[:9], all("client", "client", "watch main", "watch main"), nil} {
		lines = guard(lines, "mark")
		before := slices.Clone(whole(lines))
		x, again := runLines(lines...), runLines(lines...)
		text := fmt.Sprint(again)
		if fmt.Sprint(x) != text || !ownWorld(x.w) {
			t.Error("RunLines shares memory in its result", i)
		}
		overWorld(x.w)()
		if want := again.said; !slices.Equal(x.said, want) {
			t.Error("the lines share memory with the world", i, x.said)
		}
		overKeys(x.said)()
		if fmt.Sprint(again) != text || !again.same(modelRunLines(lines)) || !slices.Equal(whole(lines), before) {
			t.Error("RunLines shares memory", i)
		}
	}
}

func TestPromise1NilIsEmptyInConsole(t *testing.T) {
	for _, lines := range [][]string{nil, {}} {
		x := runLines(lines...)
		if x.code != 0 || len(x.said) != 0 || !x.same(modelRunLines(nil)) || !impl.SameWorld(x.w, modelRunLines(nil).w) {
			t.Error("RunLines of nothing", x)
		}
	}
	if text, code := impl.Console(""); text != "" || code != 0 {
		t.Error("Console of nothing", text, code)
	}
}

// TestPromise1SessionsOfEarlierCalls has sessions that begin anew, whatever
// others have done before.
func TestPromise1SessionsOfEarlierCalls(t *testing.T) {
	kept, texts := []heard{}, []string{}
	for _, lines := range lineCases() {
		x := runLines(lines...)
		kept, texts = append(kept, x), append(texts, fmt.Sprint(x))
		wantSaid(t, all("client", "base", "tally"), append(all("client 1"), append(newLines(), zeros())...)...)
		wantConsole(t, "watch main\nclient\nstep 1\nevents 1\n", "ok", "client 1", "skipped 1", "end")
	}
	for i, x := range kept {
		if fmt.Sprint(x) != texts[i] {
			t.Fatal("session", i, "changed later", x)
		}
	}
}

// TestPromise1SessionsAtOnce runs sessions at the same time, which must not
// show.
func TestPromise1SessionsAtOnce(t *testing.T) {
	cases := lineCases()
	want := make([]heard, len(cases))
	for i, lines := range cases {
		want[i] = runLines(lines...)
	}
	var waiting sync.WaitGroup
	for range 8 {
		waiting.Go(func() {
			for i, lines := range cases {
				if got := runLines(lines...); !got.same(want[i]) {
					t.Error("a session beside others", i, got)
				}
			}
		})
	}
	waiting.Wait()
}
