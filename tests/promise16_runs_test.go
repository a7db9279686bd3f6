package tests

import (
	"fmt"
	"math/rand/v2"
	"slices"
	"strings"
	"testing"

	"loop.example/g00737/impl"
)

// checkBeginnings expects the output for the first lines to be the beginning
// of the output for all of them.
func checkBeginnings(t *testing.T, lines []string, rest ...[]string) {
	t.Helper()
	whole := runLines(lines...).said
	for n := range len(lines) + 1 {
		said := runLines(lines[:n]...).said
		if len(said) > len(whole) || !slices.Equal(said, whole[:len(said)]) {
			t.Fatalf("RunLines of the first %d of %q: %q; then %q", n, lines, said, whole)
		}
		for _, more := range rest {
			other := slices.Concat(lines[:n], more)
			if len(other) > impl.MaxLines {
				continue
			}
			if got := runLines(other...); got.code != 0 || len(got.said) < len(said) || !slices.Equal(got.said[:len(said)], said) {
				t.Fatalf("RunLines of the first %d of %q and %q: %q; before %q", n, lines, more, got.said, said)
			}
		}
	}
}

// shortLines has lines of every kind, of which some do nothing.
func shortLines() []string {
	return all("", "# x", "do commit main a=1", "do delete main", "do x", "client", "client x", "wish commit main a=2", "wish scan", "watch main", "watch 1", "step 1 1 2", "step", "events 1", "events", "finish", "finish x", "base", "tally", "x")
}

func TestPromise16EveryShortScript(t *testing.T) {
	words := map[string]bool{}
	check := func(lines []string, rest ...[]string) {
		checkBeginnings(t, lines, rest...)
		for _, line := range checkLines(t, lines...).said {
			words[strings.Fields(line)[0]] = true
		}
	}
	for _, a := range shortLines() {
		for _, b := range shortLines() {
			for _, c := range shortLines() {
				check(all(a, b, c))
			}
		}
	}
	before := all("client", "wish commit main a=2", "wish scan main", "watch main", "client", "wish commit main b=1")
	for _, a := range shortLines() {
		for _, b := range shortLines() {
			check(append(slices.Clone(before), a, b, "tally", "events 1"), all(b, a))
		}
	}
	for _, word := range strings.Fields("ok name client error step skipped version end commit branch ended") {
		if !words[word] {
			t.Error("never said:", word)
		}
	}
}

// TestPromise16RandomScripts compares sessions of all lengths with a model.
func TestPromise16RandomScripts(t *testing.T) {
	counts := map[string]int{}
	for seed := range 400 {
		r := rand.New(rand.NewPCG(16, uint64(seed)))
		lines := anyScript(r, r.IntN(impl.MaxLines+1))
		for _, line := range checkLines(t, lines...).said {
			words := strings.Fields(line)
			if words[0] == "error" {
				counts[line]++
			} else {
				counts[words[0]]++
			}
			if _, result, found := strings.Cut(line, ": "); found {
				counts["moment "+strings.Fields(result)[0]]++
			}
			if strings.HasSuffix(line, " lag") {
				counts["lag"]++
			}
		}
	}
	wantCounts(t, counts, map[string][]string{
		"":      {"ok", "client", "step", "skipped", "version", "end", "commit", "branch", "ended", "name", "same", "exists", "none", "lag"},
		"error": {"form", "done", "none", "full"}, "moment": {"ok", "name", "conflict", "same", "exists", "none"},
	})
}

// TestPromise16LaterLines goes on in other ways after every line of a session.
func TestPromise16LaterLines(t *testing.T) {
	for seed := range 40 {
		r := rand.New(rand.NewPCG(16, uint64(1000+seed)))
		lines := anyScript(r, r.IntN(impl.MaxLines+1))
		checkBeginnings(t, lines, all("finish"), all("base", "tally", "x"), anyScript(r, r.IntN(20)), all("client", "watch main", "wish delete main", "step 1 2 3 4 5", "events 1"))
		text, _ := impl.Console(strings.Join(lines, "\n") + "\n")
		for n := range lines {
			first, code := impl.Console(strings.Join(lines[:n], "\n"))
			if code != 0 || !strings.HasPrefix(text, first) {
				t.Fatalf("Console of the first %d of %q: %q %d; then %q", n, lines, first, code, text)
			}
		}
	}
}

// TestPromise16TooManyLines has first lines whose number is accepted, while
// that of all lines is not.
func TestPromise16TooManyLines(t *testing.T) {
	r := rand.New(rand.NewPCG(16, 2000))
	lines := anyScript(r, impl.MaxLines)
	said := checkLines(t, lines...).said
	wantTooMany(t, append(slices.Clone(lines), "base"), impl.ErrMany)
	wantTooMany(t, append(slices.Clone(lines), ""), impl.ErrMany)
	wantTooMany(t, append(lines[:20:20], make([]string, impl.MaxList)...), impl.ErrLong)
	again := checkLines(t, lines...).said
	if len(said) == 0 || !slices.Equal(said, again) {
		t.Errorf("RunLines %q: %q; before %q", lines, again, said)
	}
}

// TestPromise16NearLines changes, adds and drops single bytes of lines.
func TestPromise16NearLines(t *testing.T) {
	before := all("client", "wish commit main a=2", "watch main")
	for _, line := range all("do scan main", "client", "wish get main a", "watch dev", "step 1 -2 10", "events 1", "finish", "base", "tally", "# x") {
		answers := map[string]bool{}
		nearTexts(line, func(near string) {
			lines := append(slices.Clone(before), near, "client")
			got, want := runLines(lines...), modelRunLines(lines)
			if !got.same(want) {
				t.Fatalf("RunLines %q: %q; want %q", lines, got.said, want.said)
			}
			answers[fmt.Sprint(got.said[3:])] = true
		})
		if len(answers) < 2 {
			t.Error("lines near", line, answers)
		}
	}
}

// TestPromise16AnyBytes has strings that are no commands at all.
func TestPromise16AnyBytes(t *testing.T) {
	everyText("a# \n\r\x00\xff", 5, func(text string) {
		lines := strings.Split(text, "\n")
		want := modelRunLines(lines)
		wantConsole(t, text, want.said...)
		if got := runLines(lines...); !got.same(want) {
			t.Fatalf("RunLines %q: %q; want %q", lines, got.said, want.said)
		}
	})
	r := rand.New(rand.NewPCG(16, 3000))
	for range 300 {
		lines := make([]string, r.IntN(20))
		for i := range lines {
			bytes := make([]byte, r.IntN(30))
			for j := range bytes {
				bytes[j] = byte(r.IntN(256))
			}
			lines[i] = string(bytes)
		}
		checkLines(t, lines...)
	}
}
