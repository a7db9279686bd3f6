package tests

import (
	"math/rand/v2"
	"slices"
	"strings"
	"testing"

	"loop.example/g00737/impl"
)

// wantWishText expects that a wish has this text and is recovered from it.
func wantWishText(t *testing.T, w impl.Wish, text string) {
	t.Helper()
	if got, code := impl.WishText(w); got != text || code != 0 {
		t.Fatalf("WishText %v: %q %d; want %q", w, got, code, text)
	}
	wantWish(t, text, w)
}

func wantWish(t *testing.T, text string, w impl.Wish) {
	t.Helper()
	if got := readWish(text); !got.same(wished{w: w}) {
		t.Fatalf("ReadWish %s: %v; want %v", brief(text), got, w)
	}
}

func wantNoWish(t *testing.T, text string, code int) {
	t.Helper()
	if got := readWish(text); !got.same(wished{code: code}) {
		t.Fatalf("ReadWish %s: %v; want %d", brief(text), got, code)
	}
}

// checkWish reads any text, and expects that the wish has the text of the same
// words.
func checkWish(t *testing.T, text string) wished {
	t.Helper()
	got := readWish(text)
	if want := modelReadWish(text); !got.same(want) {
		t.Fatalf("ReadWish %q: %v; want %v", text, got, want)
	}
	if got.code == 0 {
		wantWishText(t, got.w, wishText(got.w))
	}
	return got
}

func TestPromise15WishExamples(t *testing.T) {
	wantWishText(t, wishCreate("dev", "main"), "create dev main")
	wantWishText(t, wishCreate("a", "a"), "create a a")
	wantWishText(t, wishDelete("dev"), "delete dev")
	wantWishText(t, wishCommit("main"), "commit main -")
	wantWishText(t, impl.Wish{Kind: impl.OpCommit, Name: "main", Edits: []impl.Edit{}}, "commit main -")
	wantWishText(t, wishCommit("main", set("a", -1), gone("b")), "commit main a=-1,!b")
	wantWishText(t, wishCommit("m", numberedEdits(impl.MaxEdits)...), "commit m k00=0,k01=1,k02=2,k03=3,k04=4,k05=5")
	wantWishText(t, wishMerge("main", "dev"), "merge main dev")
	wantWishText(t, wishGet("main", "a"), "get main a")
	wantWishText(t, wishScan("_9"), "scan _9")
	wantWishText(t, wishMerge("abcdefghijkl", "ABCDEFGHIJKL"), "merge abcdefghijkl ABCDEFGHIJKL")
	wantWishText(t, wishGet("scan", "delete"), "get scan delete")
	wantWishText(t, wishScan("scan"), "scan scan")
	wantWishText(t, wishCreate("create", "merge"), "create create merge")
}

func TestPromise15EveryWish(t *testing.T) {
	for _, w := range validWishes() {
		wantWishText(t, w, wishText(w))
	}
	for _, c := range editCases() {
		w := wishCommit("main", c.list...)
		if !c.bad {
			wantWishText(t, w, wishText(w))
			continue
		}
		if slices.ContainsFunc(c.list, func(e impl.Edit) bool { return e.Gone && e.Value != 0 }) {
			// What is written of these edits does not show the value.
			continue
		}
		wantNoWish(t, wishText(w), first(len(wishText(w)) > impl.MaxText, impl.ErrLong, true, impl.ErrForm))
	}
	for _, w := range badWishes() {
		if text, code := impl.WishText(w); text != "" || code != impl.ErrBad {
			t.Fatalf("WishText %v: %q %d", w, text, code)
		}
	}
}

func TestPromise15WishNames(t *testing.T) {
	for _, c := range textCases() {
		for i, w := range wishKinds(c.t, "b") {
			text := wishText(w)
			long := len(text) > impl.MaxText
			if c.isName {
				wantWishText(t, w, text)
				wantWishText(t, wishKinds("b", c.t)[i], wishText(wishKinds("b", c.t)[i]))
				continue
			}
			if words := strings.Fields(text); len(words) < 2 || words[1] != c.t {
				continue
			}
			wantNoWish(t, text, first(long, impl.ErrLong, true, impl.ErrForm))
		}
		if !c.isName && !strings.Contains(c.t, " ") {
			for _, before := range []string{"create a ", "merge a ", "get a ", "commit a ", "commit a !"} {
				wantNoWish(t, before+c.t, first(len(before+c.t) > impl.MaxText, impl.ErrLong, true, impl.ErrForm))
			}
		}
	}
}

// TestPromise15Words has a word too few or too many, and words of other kinds.
func TestPromise15Words(t *testing.T) {
	for _, w := range wishKinds("main", "dev") {
		words := strings.Fields(wishText(w))
		for n := range words {
			wantNoWish(t, strings.Join(words[:n], " "), impl.ErrForm)
			wantNoWish(t, strings.Join(words[n+1:], " "), impl.ErrForm)
			wantNoWish(t, strings.Join(words[:n+1], ""), impl.ErrForm)
		}
		for _, more := range []string{"main", "a", "-", "a=1", "!a", "0", "#", "\t", "\n", "\x00"} {
			wantNoWish(t, wishText(w)+" "+more, impl.ErrForm)
			wantNoWish(t, more+" "+wishText(w), impl.ErrForm)
			if len(words) == 3 {
				wantNoWish(t, words[0]+" "+more+" "+words[1]+" "+words[2], impl.ErrForm)
			}
		}
		rest := strings.Join(words[1:], " ")
		for _, word := range []string{strings.ToUpper(words[0]), strings.ToUpper(words[0][:1]) + words[0][1:], words[0] + "s", words[0][:3] + "x", words[0][1:], words[0] + ":", "do", "wish", "ok", "done", "-", "1", "none", words[0] + "\x00"} {
			wantNoWish(t, word+" "+rest, impl.ErrForm)
			wantNoWish(t, word, impl.ErrForm)
		}
	}
}

// TestPromise15EveryWord tries all words in all places.
func TestPromise15EveryWord(t *testing.T) {
	words := []string{"", "create", "delete", "commit", "merge", "get", "scan", "main", "a", "_", "-", "a=1", "!a", "a=1,!b", "b=1,a=1", "1", "a-", "abcdefghijklm", "creates", "Get", "\t", "a\t", "#", "do"}
	kinds := make([]int, 7)
	for _, a := range words {
		for _, b := range words {
			for _, c := range words {
				for _, d := range words {
					x := checkWish(t, strings.Join([]string{a, b, c, d}, " "))
					kinds[x.w.Kind]++
				}
			}
		}
	}
	for kind, n := range kinds {
		if n < 50 {
			t.Error("Kind", kind, n)
		}
	}
}

func TestPromise15Spaces(t *testing.T) {
	r := rand.New(rand.NewPCG(15, 1))
	some := func(least int) string { return strings.Repeat(" ", least+r.IntN(4)) }
	for _, w := range append(fewWishes(), wishKinds("main", "dev")...) {
		words := strings.Split(wishText(w), " ")
		for range 5 {
			text := some(0)
			for i, word := range words {
				text += word + some(first(i+1 < len(words), 1))
			}
			wantWish(t, text, w)
		}
	}
	for _, w := range wishKinds("main", "dev") {
		text := wishText(w)
		pad := strings.Repeat(" ", impl.MaxText-len(text))
		for _, full := range []string{pad + text, text + pad, strings.Replace(text, " ", pad+" ", 1), pad[:9] + text + pad[9:]} {
			wantWish(t, full, w)
			wantNoWish(t, full+" ", impl.ErrLong)
			wantNoWish(t, " "+full, impl.ErrLong)
		}
	}
	for _, text := range []string{"", " ", "   ", strings.Repeat(" ", impl.MaxText)} {
		wantNoWish(t, text, impl.ErrForm)
	}
	wantNoWish(t, strings.Repeat(" ", impl.MaxText+1), impl.ErrLong)
	wantNoWish(t, strings.Repeat("scan ", impl.MaxText/5), impl.ErrForm)
	wantNoWish(t, strings.Repeat("scan main ", impl.MaxText), impl.ErrLong)
}

// TestPromise15OtherWhiteSpace expects that nothing but a space separates
// words, and that a word has no space inside.
func TestPromise15OtherWhiteSpace(t *testing.T) {
	for _, w := range wishKinds("main", "dev") {
		text := wishText(w)
		for _, white := range []string{"\t", "\n", "\r", "\r\n", "\v", "\f", "\x00", "\x1f", "\x7f", "\x85", "\xa0", "\u00a0", "\u2003", "\u3000", "\ufeff", ",", "+", "_ _"} {
			wantNoWish(t, strings.Replace(text, " ", white, 1), impl.ErrForm)
			wantNoWish(t, strings.ReplaceAll(text, " ", white), impl.ErrForm)
			wantNoWish(t, text+white, impl.ErrForm)
			wantNoWish(t, text+" "+white, impl.ErrForm)
			wantNoWish(t, white+text, impl.ErrForm)
			wantNoWish(t, white+" "+text, impl.ErrForm)
		}
		for at := 1; at < len(text); at++ {
			checkWish(t, text[:at]+" "+text[at:])
		}
	}
	for _, text := range []string{"commit main a=1, b=1", "commit main a =1", "commit main a= 1", "commit main ! a", "commit main - -", "commit main a=1 b=1", "sc an main", "get main a b"} {
		wantNoWish(t, text, impl.ErrForm)
	}
}

func TestPromise15NearWishes(t *testing.T) {
	for _, text := range []string{"create dev main", "delete dev", "commit m a=1,!b", "commit m -", "merge m dev", "get m a", "scan m"} {
		read := 0
		nearTexts(text, func(near string) {
			if x := checkWish(t, near); x.code == 0 {
				read++
			}
		})
		if read < 50 {
			t.Error("wishes near", text, read)
		}
	}
}
