package tests

import (
	"fmt"
	"slices"
	"strings"
	"testing"

	"loop.example/g00737/impl"
)

// repeated has a line several times, and what it says each time.
func repeated(n int, line string) []string { return slices.Repeat(all(line), n) }

// beginnings are lines that begin the world, and what they say then.
func beginnings() map[string]string {
	return map[string]string{
		"step 1": "skipped 1", "step 0": "skipped 1", "step -7 6 1": "skipped 3", "step": "error form", "step x": "error form", "step 1 x": "error form", "step 01": "error form", "step -": "error form", "  step  ": "error form", "step #": "error form",
		stepLine(make([]int, impl.MaxPicks)): fmt.Sprint("skipped ", impl.MaxPicks), stepLine(make([]int, impl.MaxPicks+1)): "error form",
		"events 1": "error none", "events 0": "error none", "events -1": "error none", "events": "error form", "events x": "error form", "events 1 1": "error form", "events 1 x": "error form", "events 00": "error form",
		"finish": "end", " finish ": "end",
	}
}

// noBeginnings are lines that do not, if there are no clients and no watches.
func noBeginnings() map[string][]string {
	return map[string][]string{
		"": nil, "#": nil, "# step 1": nil, "#finish": nil,
		"base": newLines(), "tally": {zeros()}, "base 1": {"error form"}, "tally 1": {"error form"}, "finish 1": {"error form"}, "finish finish": {"error form"}, "finish #": {"error form"},
		"do scan main": {"ok commit 1"}, "do x": {"error form"}, "do": {"error form"}, "do step 1": {"error form"},
		"wish scan main": {"error none"}, "wish": {"error none"}, "watch": {"error form"}, "watch 1": {"error form"}, "client 1": {"error form"},
		"Step 1": {"error form"}, "steps": {"error form"}, "step1": {"error form"}, "step\t1": {"error form"}, "event 1": {"error form"}, "finished": {"error form"}, "begin": {"error form"}, "1": {"error form"}, "x step 1": {"error form"},
	}
}

// preparations are lines that are done for when the world has begun, whatever
// their other words are.
func preparations() []string {
	return all("client", "client 1", "client x y", "wish scan main", "wish", "wish x", "wish scan", "wish scan main main", "wish commit main a=1", "watch main", "watch", "watch 1", "watch main dev", "do scan main", "do commit main a=1", "do get none a", "  do   delete main ")
}

func TestPromise16Beginning(t *testing.T) {
	for line, said := range beginnings() {
		for _, p := range preparations() {
			wantSaid(t, all(line, p, line, p), said, "error done", said, "error done")
		}
		wantSaid(t, all(line, "do", "do x", "do scan", "do scan main x", "base", "tally"), append(all(said, "error form", "error form", "error form", "error form"), append(newLines(), zeros())...)...)
		for other, more := range beginnings() {
			wantSaid(t, all(line, other, "client"), said, more, "error done")
		}
		for quiet, more := range noBeginnings() {
			wantSaid(t, all(quiet, quiet, "client", line, "client"), slices.Concat(more, more, all("client 1"), all(said, "error done"))...)
		}
	}
	for line, said := range noBeginnings() {
		wantSaid(t, all(line, "client", "wish scan main", "watch main", "do scan main"), append(slices.Clone(said), "client 1", "ok", "ok", "ok commit 1")...)
	}
}

// TestPromise16BeginsOnce has a world that takes what there is when it begins,
// and nothing later.
func TestPromise16BeginsOnce(t *testing.T) {
	before := all("do commit main a=1", "client", "watch main", "wish get main a", "do commit main a=2", "watch none", "client")
	said := all("ok commit 2", "client 1", "ok", "ok", "ok commit 3", "ok", "client 2")
	for line := range beginnings() {
		w := checkLines(t, append(slices.Clone(before), line, "do commit main a=3", "client", "watch main", "wish scan main")...).w
		if len(w.Clients) != 2 || len(w.Watches) != 2 || len(w.Base.Store) != 3 || w.Watches[0].Seen != 3 || len(w.Watches[0].Queue) != 0 {
			t.Error("the world that begins with", line, w)
		}
	}
	w := wantSaid(t, before, said...)
	want := newWorld(base([]impl.Commit{{}, commit(entries(entry("a", 1)), 1), commit(entries(entry("a", 2)), 2)}, live("main", 3, 3)), lists(wishes(wishGet("main", "a")), nil), "main", "none")
	if !sameWorlds(w, want) {
		t.Error("the world that begins behind the last line", w, want)
	}
	wantSaid(t, append(slices.Clone(before), "tally", "step 1", "do scan main", "tally", "base"), append(slices.Clone(said), zeros(), "step 1 client 1 wish 1 get main: ok commit 3 value 2", "skipped 0", "error done", "ended 1 good 1 conflicts 0 same 0 gaveup 0 other 0", "commit 1 map -", "commit 2 of 1 map a=1", "commit 3 of 2 map a=2", "branch main version 3 head 3", "end")...)
}

// TestPromise16BehindLast has worlds that begin behind the last line.
func TestPromise16BehindLast(t *testing.T) {
	fresh, _ := impl.NewBase(nil)
	wish := wishCommit("main", set("a", 1))
	for _, c := range []struct {
		lines  []string
		wanted [][]impl.Wish
		names  []string
	}{
		{lines: all("base", "tally", "finish 1", "client x", "watch", "wish scan main")},
		{lines: all("client"), wanted: lists(nil)},
		{lines: all("client", "client", "wish commit main a=1", "wish x", "client"), wanted: lists(nil, wishes(wish), nil)},
		{lines: all("watch x", "watch main", "watch x"), names: names("x", "main", "x")},
		{lines: all("client", "wish commit main a=1", "wish commit main a=1", "watch main", "# finish"), wanted: lists(wishes(wish, wish)), names: names("main")},
	} {
		want := newWorld(fresh, c.wanted, c.names...)
		if got := checkLines(t, c.lines...); !sameWorlds(got.w, want) || got.w.Steps != 0 {
			t.Error("RunLines", c.lines, got.w, want)
		}
		finished := checkLines(t, append(slices.Clone(c.lines), "finish")...)
		if !sameWorlds(finished.w, modelFinish(want).w) || !impl.AllDone(finished.w) {
			t.Error("RunLines with finish", c.lines, finished.w)
		}
	}
}

// TestPromise16WrongWords has a word too few and a word too many for each
// command, and words that are wrong.
func TestPromise16WrongWords(t *testing.T) {
	before := all("client", "watch main")
	for line, want := range map[string]string{
		"do": "error form", "do scan": "error form", "do main": "error form", "do scan main": "ok commit 1", "do scan main main": "error form", "do do scan main": "error form", "do wish scan main": "error form", "do commit main": "error form", "do commit main a=01": "error form", "do commit main -": "same", "do Scan main": "error form", "do scan 1": "error form", "do get main": "error form", "do get main a b": "error form",
		"client": "client 2", "client 1": "error form", "client 2": "error form", "client client": "error form",
		"wish": "error form", "wish scan": "error form", "wish scan main": "ok", "wish scan main main": "error form", "wish wish scan main": "error form", "wish do scan main": "error form", "wish 1 scan main": "error form", "wish commit main b=1,a=1": "error form", "wish merge main": "error form", "wish create x": "error form", "wish -": "error form",
		"watch": "error form", "watch main": "ok", "watch main dev": "error form", "watch main main": "error form", "watch 1": "error form", "watch a-b": "error form", "watch abcdefghijkl": "ok", "watch abcdefghijklm": "error form", "watch \u00e9": "error form", "watch main\t": "error form", "watch watch": "ok", "watch _": "ok", "watch never": "ok",
		"step": "error form", "step x": "error form", "step 2": "skipped 1",
		"events": "error form", "events 1": "end", "events 2": "error none", "events 1 1": "error form", "events x": "error form", "events main": "error form", "events 01": "error form", "events +1": "error form", "events 1.0": "error form", "events -0": "error form",
		"finish": "end", "finish 1": "error form", "finish finish": "error form", "finish x y": "error form",
		"base 1": "error form", "base base": "error form", "base main": "error form",
		"tally": zeros(), "tally 1": "error form", "tally tally": "error form",
	} {
		wantLast(t, before, line, want)
		wantLast(t, before, "  "+strings.ReplaceAll(line, " ", "   ")+" ", want)
	}
	wantLast(t, before, "base", newLines()...)
	for _, c := range textCases() {
		if strings.Contains(c.t, " ") || c.t == "" {
			continue
		}
		want := map[bool]string{true: "ok", false: "error form"}[c.isName]
		wantLast(t, before, "watch "+c.t, want)
		wantLast(t, before, "wish scan "+c.t, want)
	}
}

// TestPromise16Integers has texts of integers, which are picks and numbers of
// watches, and texts that are none.
func TestPromise16Integers(t *testing.T) {
	for text, valid := range integers() {
		if strings.Contains(text, " ") || text == "" {
			continue
		}
		// These are too large for a value of a map.
		large := slices.Contains(all("1000001", "-1000001", "1000010", "2000000", "9999999", "-9999999", "10000000", "123456789012345678", "-123456789012345678", "999999999999999999", "-999999999999999999", "4294967296", "4294967297"), text)
		want, number := all("skipped 1"), all("error none")
		switch {
		case !valid && !large:
			want, number = all("error form"), all("error form")
		case text == "1":
			want, number = all("step 1 client 1 wish 1 scan main: ok commit 1", "skipped 0"), all("end")
		}
		before := all("client", "wish scan main", "watch main")
		wantLast(t, before, "step "+text, want...)
		wantLast(t, before, "events "+text, number...)
		wantLast(t, before, "events "+text+" 1", "error form")
		if valid || large {
			wantLast(t, before, "step 0 "+text+" 1", "step 1 client 1 wish 1 scan main: ok commit 1", "skipped 2")
		} else {
			// One that is none spoils the others.
			for _, line := range []string{"step 1 " + text, "step " + text + " 1", "step 1 " + text + " 1"} {
				if w := checkLines(t, append(slices.Clone(before), line)...).w; len(w.Moments) != 0 || w.Steps != 0 {
					t.Error(line, w)
				}
				wantLast(t, before, line, "error form")
			}
		}
	}
}
