package tests

import (
	"fmt"
	"slices"
	"testing"

	"loop.example/g00737/impl"
)

// numberedClients is what client says each time.
func numberedClients(n int) []string {
	said := []string{}
	for i := range n {
		said = append(said, fmt.Sprint("client ", i+1))
	}
	return said
}

func TestPromise16Clients(t *testing.T) {
	full := repeated(impl.MaxClients, "client")
	for n := range impl.MaxClients + 1 {
		w := wantSaid(t, repeated(n, "client"), numberedClients(n)...)
		if len(w.Clients) != n {
			t.Error("clients", n, w.Clients)
		}
		last := "error form"
		if n == impl.MaxClients {
			last = "error full"
		}
		for _, line := range all("client 1", "client x", "client client", "client 1 2") {
			wantSaid(t, append(repeated(n, "client"), line, line), append(numberedClients(n), last, last)...)
		}
	}
	// That there are too many comes before the other words.
	wantLast(t, full, "client", "error full")
	wantLast(t, full, "client 6", "error full")
	wantLast(t, full, "wish scan main", "ok")
	// What is done for comes before both.
	wantLast(t, append(slices.Clone(full), "step 1"), "client", "error done")
	wantLast(t, append(slices.Clone(full), "step 1"), "client 6", "error done")
	w := wantSaid(t, append(slices.Clone(full), "client", "wish scan main", "client x"), append(numberedClients(5), "error full", "ok", "error full")...)
	if len(w.Clients) != 5 || len(w.Clients[4].Wishes) != 1 {
		t.Error("clients", w.Clients)
	}
}

func TestPromise16Wishes(t *testing.T) {
	for _, line := range all("wish scan main", "wish", "wish x", "wish scan 1", "wish scan main main") {
		// Without a client no wish is looked at.
		wantSaid(t, all(line, "watch main", line, "client"), "error none", "ok", "error none", "client 1")
		want := map[bool]string{true: "ok", false: "error form"}
		valid := line == "wish scan main"
		before := append(all("client"), repeated(impl.MaxWishes-1, "wish scan main")...)
		wantLast(t, before, line, want[valid])
		before = append(before, "wish scan main")
		// A wish that is none comes before that there are too many.
		wantLast(t, before, line, map[bool]string{true: "error full", false: "error form"}[valid])
		wantLast(t, append(slices.Clone(before), line), line, map[bool]string{true: "error full", false: "error form"}[valid])
		wantLast(t, append(slices.Clone(before), "client"), line, want[valid])
		wantLast(t, append(slices.Clone(before), "finish"), line, "error done")
		wantLast(t, all("finish"), line, "error done")
	}
	for n := range impl.MaxWishes + 2 {
		w := checkLines(t, append(all("client", "client"), repeated(n, "wish scan main")...)...).w
		if len(w.Clients[0].Wishes) != 0 || len(w.Clients[1].Wishes) != min(n, impl.MaxWishes) {
			t.Error("wishes", n, w.Clients)
		}
	}
	// Wishes are added to the last client, and kept as they are.
	list := lists(wishKinds("main", "dev"), wishKinds("x", "abcdefghijkl"), nil, validWishes()[7:13], fewWishes()[:6])
	w := checkLines(t, wishLines(list)...).w
	if !sameWorlds(w, newWorld(w.Base, list)) || len(w.Clients) != len(list) {
		t.Error("wishes", w.Clients)
	}
}

func TestPromise16Watches(t *testing.T) {
	for n := range impl.MaxWatches + 2 {
		said := append(repeated(min(n, 3), "ok"), repeated(n-min(n, 3), "error full")...)
		w := wantSaid(t, repeated(n, "watch main"), said...)
		if len(w.Watches) != min(n, impl.MaxWatches) {
			t.Error("watches", n, w.Watches)
		}
	}
	full := watchLines(names("main", "x", "main"))
	wantLast(t, full, "watch main", "error full")
	wantLast(t, full, "watch y", "error full")
	// What is no name comes before that there are too many.
	for _, line := range all("watch", "watch 1", "watch main x", "watch a-b", "watch abcdefghijklm") {
		wantLast(t, full, line, "error form")
		wantLast(t, full[:2], line, "error form")
		wantLast(t, append(slices.Clone(full), "events 1"), line, "error done")
	}
	wantLast(t, full, "client", "client 1")
	for n, want := range map[int]string{-1: "error none", 0: "error none", 1: "end", 2: "end", 3: "end", 4: "error none", 5: "error none", 1000000: "error none"} {
		wantLast(t, full, fmt.Sprint("events ", n), want)
		wantLast(t, append(slices.Clone(full), "watch y"), fmt.Sprint("events ", n), want)
	}
}

// TestPromise16Picks has as many picks as there may be, and one more, with
// spaces and other picks between.
func TestPromise16Picks(t *testing.T) {
	before := all("client", "wish commit main a=1", "wish scan main", "client")
	moments := all("step 2 client 1 wish 1 commit main from 1: ok commit 2", "step 3 client 1 wish 2 scan main: ok commit 2 map a=1")
	wantLast(t, before, "step", "error form")
	wantLast(t, before, "step 1", "skipped 0")
	wantLast(t, before, "step 1 1 1", append(slices.Clone(moments), "skipped 0")...)
	wantLast(t, before, "step 2 3 -1 0 999999999999999999 -999999999999999999", "skipped 6")
	wantLast(t, before, "step 1 2 1 3 1 1 1", append(slices.Clone(moments), "skipped 4")...)
	for _, n := range []int{impl.MaxPicks - 1, impl.MaxPicks} {
		wantLast(t, before, stepLine(slices.Repeat([]int{1}, n)), append(slices.Clone(moments), fmt.Sprint("skipped ", n-3))...)
		wantLast(t, before, stepLine(slices.Repeat([]int{2}, n)), fmt.Sprint("skipped ", n))
	}
	for _, n := range []int{impl.MaxPicks + 1, impl.MaxPicks + 2, impl.MaxList, impl.MaxList + 1} {
		line := stepLine(slices.Repeat([]int{1}, n))
		wantLast(t, before, line, "error form")
		if w := checkLines(t, append(slices.Clone(before), line)...).w; w.Steps != 0 {
			t.Error("steps of a line that is an error", w)
		}
		wantLast(t, append(slices.Clone(before), line), "step 1 1", moments[0], "skipped 0")
	}
	// Each line has moments of its own.
	said := wantSaid(t, append(slices.Clone(before), "step 1", "step 1", "tally", "step 1", "step 1", "finish", "finish"), "client 1", "ok", "ok", "client 2", "skipped 0", moments[0], "skipped 0", "ended 1 good 1 conflicts 0 same 0 gaveup 0 other 0", moments[1], "skipped 0", "skipped 1", "end", "end")
	if said.Steps != 3 {
		t.Error("Steps", said.Steps)
	}
}

// TestPromise16Events drains a queue at every length that it may have.
func TestPromise16Events(t *testing.T) {
	before := append(all("watch main", "watch never", "watch main", "client"), repeated(impl.MaxWishes, "wish commit main a=1")...)
	for i := range impl.MaxWishes {
		before[4+i] = fmt.Sprint("wish commit main a=", i+1)
	}
	for n := range impl.MaxWishes + 1 {
		lines, want := append(slices.Clone(before), stepLine(make([]int, 1))), all()
		if n > 0 {
			lines[len(lines)-1] = stepLine(slices.Repeat([]int{1}, 2*n))
		}
		for v := 2; v <= n+1; v++ {
			if n <= impl.MaxQueue {
				want = append(want, fmt.Sprintf("version %d head %d", v, v))
			}
		}
		if n > impl.MaxQueue {
			want = append(want, "version 6 head 6 lag")
		}
		if n == impl.MaxQueue+2 {
			want = append(want, "version 7 head 7")
		}
		want = append(want, "end")
		wantLast(t, lines, "events 1", want...)
		wantLast(t, append(slices.Clone(lines), "events 1"), "events 1", "end")
		wantLast(t, append(slices.Clone(lines), "events 1", "events 2"), "events 3", want...)
		wantLast(t, append(slices.Clone(lines), "events 1 1", "events", "events x", "events 4", "events 0"), "events 1", want...)
		wantLast(t, lines, "events 2", "end")
		wantLast(t, lines, "events 4", "error none")
		w := checkLines(t, append(slices.Clone(lines), "events 3")...).w
		if len(w.Watches[0].Queue) != len(want)-1 || !sameWatches(w.Watches[2], watch("main", n+1)) {
			t.Error("watches", w.Watches)
		}
	}
	wantSaid(t, all("do create x main", "watch x", "client", "wish delete x", "wish create x main", "wish delete x", "step 1", "events 1", "finish", "events 1", "events 1"),
		"ok commit 1", "ok", "client 1", "ok", "ok", "ok", "step 1 client 1 wish 1 delete x: ok commit 1", "skipped 0", "version 2 head 0", "end",
		"step 3 client 1 wish 2 create x from 1: ok commit 1", "step 4 client 1 wish 3 delete x: ok commit 1", "end", "version 3 head 1", "version 4 head 0", "end", "end")
}

// TestPromise16Tally counts moments of all Codes.
func TestPromise16Tally(t *testing.T) {
	lines := all("client", "wish commit main a=1", "wish scan main", "client", "wish commit main a=2", "wish get main none", "wish merge main main", "wish delete x", "wish create x y")
	wantLast(t, append(slices.Clone(lines), "step 1 2"), "tally", zeros())
	wantLast(t, append(slices.Clone(lines), "step 1 2", "step 1 2 2"), "tally", "ended 2 good 1 conflicts 1 same 0 gaveup 0 other 0")
	wantLast(t, append(slices.Clone(lines), "step 1 2", "step 1 2 2", "finish"), "tally", "ended 7 good 2 conflicts 1 same 1 gaveup 0 other 3")
	for _, line := range all("tally", "base") {
		before := checkLines(t, append(slices.Clone(lines), "step 1 2 1")...)
		after := checkLines(t, append(slices.Clone(lines), "step 1 2 1", line, line, line)...)
		if !sameWorlds(before.w, after.w) {
			t.Error(line, "changes the world", before.w, after.w)
		}
	}
}

// TestPromise16Overtaken has a client that gives up.
func TestPromise16Overtaken(t *testing.T) {
	lines := all("do create dev main", "watch main", "client", "wish commit main s=1")
	for range impl.MaxRetries + 1 {
		lines = append(lines, "client", fmt.Sprintf("wish commit main k%d=1", len(lines)))
	}
	lines = append(lines, "step 1")
	for i := range impl.MaxRetries + 1 {
		lines = append(lines, fmt.Sprint("step ", i+2, " ", i+2), "step 1 1")
	}
	got := checkLines(t, append(lines, "tally", "events 1", "base")...)
	i := slices.Index(got.said, "ended 5 good 4 conflicts 0 same 0 gaveup 1 other 0")
	if i < 1 || got.said[i-1] != "skipped 1" || !slices.Contains(got.said, "step 16 client 1 wish 1: retries") {
		t.Errorf("a client that gives up %q", got.said)
	}
}

// TestPromise16Do executes lines until the repository is full.
func TestPromise16Do(t *testing.T) {
	lines, said := all(), all()
	for i := range impl.MaxLines - 2 {
		lines = append(lines, fmt.Sprint("do commit main a=", i+1))
		said = append(said, map[bool]string{true: fmt.Sprint("ok commit ", i+2), false: "full"}[i+2 <= impl.MaxCommits])
	}
	w := wantSaid(t, append(slices.Clone(lines), "client", "do scan main"), append(said, "client 1", "ok commit 60 map a=59")...)
	if len(w.Base.Store) != impl.MaxCommits || w.Steps != 0 || len(w.Moments) != 0 {
		t.Error("the world after lines that do", w)
	}
	full := checkLines(t, append(slices.Clone(lines), "base")...).said
	if n := len(full) - len(lines); n != impl.MaxCommits+2 {
		t.Error("lines of base", n)
	}
	wantSaid(t, all("do create dev main", "do commit dev a=1,b=2", "do commit main a=3", "do merge main dev", "do commit dev !a", "do commit dev !a", "do merge main dev", "do delete main", "do delete main", "do scan main", "do create main dev", "do create main dev", "do get main a", "do get main b", "do create x y", "do merge x main", "do merge main x"),
		"ok commit 1", "ok commit 2", "ok commit 3", "conflict keys a", "ok commit 4", "same", "ok commit 5", "ok commit 5", "name", "name", "ok commit 4", "exists", "none", "ok commit 4 value 2", "name", "name", "name")
}
