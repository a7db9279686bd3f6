package tests

import (
	"math"
	"strings"
	"testing"

	"loop.example/g00737/impl"
)

func TestNameOK(t *testing.T) {
	for _, c := range textCases() {
		if impl.NameOK(c.t) != c.isName {
			t.Error("NameOK", brief(c.t), !c.isName)
		}
	}
}

func TestNameOKBytes(t *testing.T) {
	const letters = "abcdefghijklmnopqrstuvwxyzABCDEFGHIJKLMNOPQRSTUVWXYZ_"
	const digits = "0123456789"
	for i := range 256 {
		c := string([]byte{byte(i)})
		letter, digit := strings.Contains(letters, c), strings.Contains(digits, c)
		if impl.NameOK(c) != letter {
			t.Errorf("first byte %q: %v", c, !letter)
		}
		for _, text := range []string{"a" + c, "a" + c + "b", "a1234567890" + c} {
			if impl.NameOK(text) != (letter || digit) {
				t.Errorf("name %q: %v", text, !(letter || digit))
			}
		}
	}
}

func TestNameOKLengths(t *testing.T) {
	for n := range 30 {
		if got, want := impl.NameOK(strings.Repeat("x", n)), n >= 1 && n <= impl.MaxName; got != want {
			t.Error("length", n, got)
		}
	}
}

func TestCodeWords(t *testing.T) {
	words := strings.Fields("ok bad long form range none many full size kind name conflict retries stale exists done order lag same")
	codes := []int{impl.OK, impl.ErrBad, impl.ErrLong, impl.ErrForm, impl.ErrRange, impl.ErrNone, impl.ErrMany, impl.ErrFull, impl.ErrSize, impl.ErrKind, impl.ErrName,
		impl.ErrConflict, impl.ErrRetries, impl.ErrStale, impl.ErrExists, impl.ErrDone, impl.ErrOrder, impl.ErrLag, impl.ErrSame}
	for i, word := range words {
		if codes[i] != i {
			t.Error("constant", i, codes[i])
		}
		if got := impl.CodeWord(i); got != word {
			t.Errorf("CodeWord(%d) = %q", i, got)
		}
		if got := impl.CodeOf(word); got != i {
			t.Errorf("CodeOf(%q) = %d", word, got)
		}
	}
	for _, code := range []int{-1, -18, 19, 20, 256, 1 << 32, math.MaxInt, math.MinInt} {
		if got := impl.CodeWord(code); got != "" {
			t.Errorf("CodeWord(%d) = %q", code, got)
		}
	}
}

func TestCodeOfOtherStrings(t *testing.T) {
	other := []string{"", " ", "OK", "Ok", "o", "okay", "ok ", " ok", "sames", "sam", "0", "18", "gone", "ok\x00", "\xff",
		strings.Repeat("ok", impl.MaxText/2), strings.Repeat("ok", impl.MaxText), "same" + strings.Repeat(" ", impl.MaxText)}
	for _, word := range other {
		if got := impl.CodeOf(word); got != -1 {
			t.Errorf("CodeOf(%s) = %d", brief(word), got)
		}
	}
}

func TestLimits(t *testing.T) {
	limits := [][2]int{{impl.MaxText, 65536}, {impl.MaxList, 4096}, {impl.MaxName, 12}, {impl.MaxKeys, 12}, {impl.MaxEdits, 6}, {impl.MaxValue, 1000000}}
	for i, v := range limits {
		if v[0] != v[1] {
			t.Error("limit", i, v[0], v[1])
		}
	}
}
