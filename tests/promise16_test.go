package tests

import (
	"slices"
	"strings"
	"testing"

	"loop.example/g00737/impl"
)

// wantConsole expects that a string leads to these lines.
func wantConsole(t *testing.T, text string, want ...string) {
	t.Helper()
	whole := ""
	for _, line := range want {
		whole += line + "\n"
	}
	if got, code := impl.Console(text); got != whole || code != 0 {
		t.Fatalf("Console %q: %q %d; want %q", text, got, code, whole)
	}
}

// checkLines executes lines, also as a string, and expects what a model says.
func checkLines(t *testing.T, lines ...string) heard {
	t.Helper()
	got, want := runLines(lines...), modelRunLines(lines)
	if !got.same(want) {
		t.Fatalf("RunLines %q: %q %d; want %q %d; %v; want %v", lines, got.said, got.code, want.said, want.code, got.w, want.w)
	}
	if got.code == 0 && !impl.WorldOK(got.w) {
		t.Fatalf("RunLines %q: an invalid world %v", lines, got.w)
	}
	whole := strings.Join(lines, "\n")
	if got.code == 0 && len(whole) < impl.MaxText && !slices.ContainsFunc(lines, func(line string) bool { return strings.Contains(line, "\n") }) {
		wantConsole(t, whole, got.said...)
		if len(lines) > 0 {
			wantConsole(t, whole+"\n", got.said...)
		}
	}
	return got
}

// wantSaid returns the world.
func wantSaid(t *testing.T, lines []string, want ...string) impl.World {
	t.Helper()
	got := checkLines(t, lines...)
	if got.code != 0 || !slices.Equal(got.said, want) {
		t.Fatalf("RunLines %q: %q %d; want %q", lines, got.said, got.code, want)
	}
	return got.w
}

// wantLast expects what the last line says.
func wantLast(t *testing.T, before []string, line string, want ...string) {
	t.Helper()
	said := checkLines(t, before...).said
	wantSaid(t, append(slices.Clone(before), line), append(said, want...)...)
}

func all(lines ...string) []string { return lines }

// newLines shows a repository to which nothing has happened.
func newLines() []string { return all("commit 1 map -", "branch main version 1 head 1", "end") }

func zeros() string { return "ended 0 good 0 conflicts 0 same 0 gaveup 0 other 0" }

func TestPromise16NoLines(t *testing.T) {
	fresh, _ := impl.NewBase(nil)
	for _, lines := range [][]string{nil, {}, {""}, {" "}, {"", "", ""}, {"#"}, make([]string, impl.MaxLines)} {
		w := wantSaid(t, lines)
		if !sameWorlds(w, impl.World{Base: fresh}) {
			t.Error("RunLines", lines, w)
		}
	}
	for _, text := range []string{"", "\n", "\n\n\n", " ", "   \n \n", "#", "# none\n", "  #\n\n#"} {
		wantConsole(t, text)
	}
}

func TestPromise16NumberOfLines(t *testing.T) {
	for _, line := range []string{"", "   ", "#", "# step 1", "base", "tally", "client", "finish", "do commit main a=1", "x", "step 1", "events 1"} {
		for _, n := range []int{1, 2, impl.MaxLines - 1, impl.MaxLines} {
			checkLines(t, slices.Repeat(all(line), n)...)
		}
		for _, n := range []int{impl.MaxLines + 1, impl.MaxLines + 2, 1000, impl.MaxList} {
			wantTooMany(t, slices.Repeat(all(line), n), impl.ErrMany)
		}
		for _, n := range []int{impl.MaxList + 1, impl.MaxText + 1} {
			wantTooMany(t, slices.Repeat(all(line), n), impl.ErrLong)
		}
		full := strings.Repeat(line+"\n", impl.MaxLines)
		wantConsole(t, full, runLines(slices.Repeat(all(line), impl.MaxLines)...).said...)
		for _, more := range []string{"\n", "x", " ", "#", "\n\n", "x\n", full} {
			wantNoConsole(t, full+more, impl.ErrMany)
			wantNoConsole(t, more+"\n"+full, impl.ErrMany)
		}
		if line != "" {
			wantConsole(t, strings.Repeat(line+"\n", impl.MaxLines-1)+line, runLines(slices.Repeat(all(line), impl.MaxLines)...).said...)
		}
	}
}

func wantTooMany(t *testing.T, lines []string, code int) {
	t.Helper()
	if got := runLines(lines...); !got.same(heard{code: code}) {
		t.Fatal("RunLines of", len(lines), "lines", got.code, got.said)
	}
}

func wantNoConsole(t *testing.T, text string, code int) {
	t.Helper()
	if got, c := impl.Console(text); got != "" || c != code {
		t.Fatalf("Console %s: %q %d; want %d", brief(text), got, c, code)
	}
}

// TestPromise16LongStrings has strings around MaxText. Too many lines count
// only if the string is not too long.
func TestPromise16LongStrings(t *testing.T) {
	pad := func(part string, n int) string { return strings.Repeat(part, n)[:n] }
	for _, c := range []struct {
		before, part string
		said         []string
	}{
		{"tally\n", " ", all(zeros())},
		{"tally\n#", "x", all(zeros())},
		{"", "x", all("error form")},
		{"tally\n", "\x00", all(zeros(), "error form")},
		{"tally", " ", all(zeros())},
		{"client\nwish scan main", " ", all("client 1", "ok")},
		{"step ", "1 ", all("error form")},
	} {
		full := c.before + pad(c.part, impl.MaxText-len(c.before))
		wantConsole(t, full[:impl.MaxText-1], c.said...)
		wantConsole(t, full, c.said...)
		for _, long := range []string{full + "\n", full + " ", full + full} {
			wantNoConsole(t, long, impl.ErrLong)
		}
	}
	wantNoConsole(t, pad("\n", impl.MaxText), impl.ErrMany)
	wantNoConsole(t, pad("\n", impl.MaxText+1), impl.ErrLong)
	wantNoConsole(t, pad("tally\n", impl.MaxText), impl.ErrMany)
	wantNoConsole(t, pad("tally\n", impl.MaxText+1), impl.ErrLong)
	wantNoConsole(t, pad("\n", impl.MaxList), impl.ErrMany)
	wantNoConsole(t, pad("\n", impl.MaxList+1), impl.ErrMany)
}

// TestPromise16LongLines has lines of a list, which have no limit.
func TestPromise16LongLines(t *testing.T) {
	spaces := strings.Repeat(" ", impl.MaxText+1)
	for line, want := range map[string]string{
		"tally":               zeros(),
		"do commit main a=1":  "ok commit 2",
		"client":              "client 1",
		"watch main":          "ok",
		"step 1 2":            "skipped 2",
		"do scan":             "error form",
		"events 1":            "error none",
		"watch " + spaces[1:]: "error form",
		"watch " + strings.Repeat("a", impl.MaxText): "error form",
		"do scan " + strings.Repeat("a", 1<<20):      "error form",
		"do scan main" + strings.Repeat(" a", 1<<20): "error form",
		"step" + strings.Repeat(" 1", 1<<20):         "error form",
		"step 1" + strings.Repeat("0", 1<<20):        "error form",
		"events " + strings.Repeat("1", 1<<20):       "error form",
		strings.Repeat("tally ", 1<<18):              "error form",
		strings.Repeat("x", impl.MaxText+1):          "error form",
	} {
		for _, long := range []string{spaces + line, line + spaces, strings.Replace(line, " ", spaces, 1)} {
			wantSaid(t, all(long), want)
		}
		wantSaid(t, all(line, "# "+line, spaces+"#"+line, spaces, "tally"), want, zeros())
	}
	said := wantSaid(t, all("client", spaces+"wish"+spaces+"commit"+spaces+"main"+spaces+"a=1"+spaces, "finish"), "client 1", "ok", "step 2 client 1 wish 1 commit main from 1: ok commit 2", "end")
	if len(said.Moments) != 1 {
		t.Error("moments", said.Moments)
	}
}

// TestPromise16Lines has lines that say nothing, and what ends a line.
func TestPromise16Lines(t *testing.T) {
	for text, want := range map[string][]string{
		"tally":                        {zeros()},
		"tally\n":                      {zeros()},
		"\ntally":                      {zeros()},
		"\n\ntally\n\n\n":              {zeros()},
		"  tally  \n   ":               {zeros()},
		"tally\n\n  \n#\ntally":        {zeros(), zeros()},
		"#tally\n # tally\n   ##\n":    {},
		"# tally\ntally\n#":            {zeros()},
		"tally #":                      {"error form"},
		"tally # tally\n":              {"error form"},
		"tally#":                       {"error form"},
		"do scan #\n":                  {"error form"},
		"! tally\n":                    {"error form"},
		"/# tally\n":                   {"error form"},
		"tally\r\n":                    {"error form"},
		"tally\r":                      {"error form"},
		"\r\n":                         {"error form"},
		"\r":                           {"error form"},
		"\t\n":                         {"error form"},
		"\t#\n":                        {"error form"},
		"tally\ttally":                 {"error form"},
		"\ttally\n":                    {"error form"},
		"tally\x00\n":                  {"error form"},
		"\x00\n\x00":                   {"error form", "error form"},
		"tally\vtally\n":               {"error form"},
		"tally\u2028tally\n":           {"error form"},
		"\u00a0\n":                     {"error form"},
		"\ufefftally\n":                {"error form"},
		"\xff\n":                       {"error form"},
		"client\nclient":               {"client 1", "client 2"},
		"step\n1\n":                    {"error form", "error form"},
		"do\nscan main\n":              {"error form", "error form"},
		"   do    scan       main    ": {"ok commit 1"},
		" step  1   2  ":               {"skipped 2"},
	} {
		wantConsole(t, text, want...)
	}
	for _, line := range []string{"tally\n", "\ntally", "\n", "tally\ntally", "do scan main\n", "do scan\nmain", "client\n", "#\ntally"} {
		want := all("error form")
		if line[0] == '#' {
			want = nil
		}
		wantSaid(t, all(line), want...)
	}
}

func TestPromise16UnknownWords(t *testing.T) {
	rest := map[string]string{"do": " scan main", "wish": " scan main", "watch": " main", "step": " 1", "events": " 1"}
	for _, word := range strings.Fields("do client wish watch step events finish base tally") {
		line := word + rest[word]
		if said := checkLines(t, "client", "watch main", line).said; said[2] == "error form" {
			t.Error("not known:", line, said)
		}
		for _, other := range []string{
			strings.ToUpper(word), strings.ToUpper(word[:1]) + word[1:], word[:len(word)-1] + strings.ToUpper(word[len(word)-1:]),
			word + "s", word + ":", word + ",", word + "1", word + "#", word + "\x00", "-" + word, "x" + word, "\"" + word + "\"", word[1:], word[:len(word)-1], word[:1] + "x" + word[2:], word + "\u00e9", word + "\xff", word[:1] + "\u0131" + word[1:], word + word,
		} {
			wantLast(t, all("client", "watch main"), other+rest[word], "error form")
			wantLast(t, all("client", "watch main", "finish"), other+rest[word], "error form")
			// Such a line does not begin the world.
			wantSaid(t, all(other+rest[word], "client"), "error form", "client 1")
		}
	}
	for _, word := range strings.Fields("go help quit exit end ok error form none run commit get scan create delete merge version events1 step1 1 0 -1 - = ! ;") {
		wantSaid(t, all(word, word+" main", "client", word+" 1"), "error form", "error form", "client 1", "error form")
	}
}
