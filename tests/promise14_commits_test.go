package tests

import (
	"fmt"
	"math"
	"strings"
	"testing"

	"loop.example/g00737/impl"
)

// wantCommit expects that a commit has this encoding and is recovered from it.
func wantCommit(t *testing.T, what string, c impl.Commit, text string) {
	t.Helper()
	if got, code := impl.EncodeCommit(c); got != text || code != 0 {
		t.Fatalf("EncodeCommit %s: %x %d; want %x", what, got, code, text)
	}
	if got := decodeCommit(text); !got.same(decodedCommit{c: c}) {
		t.Fatalf("DecodeCommit %s of %x: %v; want %v", what, text, got, c)
	}
}

func wantNoCommit(t *testing.T, what string, c impl.Commit) {
	t.Helper()
	if got, code := impl.EncodeCommit(c); got != "" || code != impl.ErrBad {
		t.Fatalf("EncodeCommit %s: %x %d", what, got, code)
	}
}

func wantDecodedCommit(t *testing.T, text string, want decodedCommit) {
	t.Helper()
	if got := decodeCommit(text); !got.same(want) {
		t.Fatalf("DecodeCommit %s: %v; want %v", brief(text), got, want)
	}
}

func TestPromise14CommitExamples(t *testing.T) {
	wantCommit(t, "nothing", impl.Commit{}, "\x00\x00")
	wantCommit(t, "one parent", commit(nil, 60), "\x01\x3c\x00")
	wantCommit(t, "two parents", commit(nil, 2, 1), "\x02\x02\x01\x00")
	wantCommit(t, "one entry", commit(entries(entry("a", 0))), "\x00\x01\x01a\x00")
	wantCommit(t, "values", commit(entries(entry("a", -1), entry("b", 1), entry("c", -64), entry("d", 64), entry("e", -65), entry("f", 63)), 1),
		"\x01\x01\x06\x01a\x01\x01b\x02\x01c\x7f\x01d\x80\x01\x01e\x81\x01\x01f\x7e")
	wantCommit(t, "limits", commit(entries(entry("Z", impl.MaxValue), entry("_bcdefghijk9", -impl.MaxValue)), 1, 60),
		"\x02\x01\x3c\x02\x01Z\x80\x89\x7a\x0c_bcdefghijk9\xff\x88\x7a")
	full := "\x00\x0c"
	for i := range impl.MaxKeys {
		full += fmt.Sprintf("\x03k%02d%c", i, 2*i)
	}
	wantCommit(t, "MaxKeys entries", commit(numbered(impl.MaxKeys)), full)
}

func TestPromise14EveryCommit(t *testing.T) {
	for _, c := range commitCases() {
		if !encodes(c.c) {
			wantNoCommit(t, c.name, c.c)
			continue
		}
		wantCommit(t, c.name, c.c, commitBytes(c.c))
	}
	for _, m := range mapCases() {
		for _, parents := range [][]int{nil, {}, {1}, {impl.MaxCommits, 1}} {
			c := impl.Commit{Parents: parents, Map: m.m}
			if m.bad {
				wantNoCommit(t, m.name, c)
				continue
			}
			wantCommit(t, m.name, c, commitBytes(c))
		}
	}
	for _, store := range grownStores() {
		for _, c := range store {
			wantCommit(t, "grown", c, commitBytes(c))
		}
	}
}

// TestPromise14Parents has the parents at and beyond both ends, in every order.
func TestPromise14Parents(t *testing.T) {
	some := []int{math.MinInt, -60, -1, 0, 1, 2, 30, 59, 60, 61, 62, 128, math.MaxInt}
	try := func(parents ...int) {
		c := commit(entries(entry("a", 1)), parents...)
		if !encodes(c) {
			wantNoCommit(t, fmt.Sprint(parents), c)
			return
		}
		wantCommit(t, fmt.Sprint(parents), c, commitBytes(c))
	}
	for _, p := range some {
		try(p)
		for _, q := range some {
			try(p, q)
			try(p, q, 3)
		}
	}
	for p := 1; p <= impl.MaxCommits; p++ {
		for q := 1; q <= impl.MaxCommits; q++ {
			try(p, q)
		}
	}
	try(make([]int, impl.MaxList+1)...)
}

// TestPromise14Values has numbers for values that no map may have, too.
func TestPromise14Values(t *testing.T) {
	for v := -2 * impl.MaxValue; v <= 2*impl.MaxValue; v++ {
		edge := v < 300 && v > -300 || v > impl.MaxValue-3 && v < impl.MaxValue+3 || v < 3-impl.MaxValue && v > -3-impl.MaxValue
		if !edge && v%499 != 0 {
			continue
		}
		c := commit(entries(entry("a", v)))
		if v < -impl.MaxValue || v > impl.MaxValue {
			wantNoCommit(t, fmt.Sprint("value ", v), c)
			wantDecodedCommit(t, commitBytes(c), decodedCommit{code: impl.ErrForm})
			continue
		}
		wantCommit(t, fmt.Sprint("value ", v), c, commitBytes(c))
	}
	for _, v := range badValues() {
		wantNoCommit(t, fmt.Sprint("value ", v), commit(entries(entry("a", v))))
	}
}

func TestPromise14NoCommit(t *testing.T) {
	good := "\x01\x02\x02\x01a\x02\x01b\x04"
	wantDecodedCommit(t, good, decodedCommit{c: commit(entries(entry("a", 1), entry("b", 2)), 2)})
	for _, text := range []string{
		"", "\x00", "\x01", "\x01\x01", "\x02\x01\x00",
		good[:len(good)-1], good[1:], good + "\x00", good + good, "\x00" + good,
		"\x03\x01\x02\x03\x00", "\x01\x00\x00", "\x01\x3d\x00", "\x01\x80\x01\x00", "\x02\x01\x01\x00", "\x02\x01\x00\x00", "\x02\x3d\x01\x00",
		"\x00\x0d", "\x00\x01", "\x00\x01\x01", "\x00\x01\x01a", "\x00\x01\x02a\x00", "\x00\x01\x00\x00",
		"\x00\x02\x01b\x00\x01a\x00", "\x00\x02\x01a\x00\x01a\x00", "\x00\x02\x01a\x00\x01a\x02", "\x00\x02\x02ab\x00\x01a\x00",
		"\x00\x01\x011\x00", "\x00\x01\x02a-\x00", "\x00\x01\x02\xc3\xa9\x00", "\x00\x01\x02a\x00\x00",
		"\x00\x01\x0dabcdefghijklm\x00", "\x00\x01\x8c\x00abcdefghijkl\x00",
		"\x00\x01\x01a\x82\x89\x7a", "\x00\x01\x01a\x81\x89\x7a", "\x00\x01\x01a\x80\x92\xf4\x01", "\x00\x01\x01a\x81\x92\xf4\x01", "\x00\x01\x01a\x80\x00", "\x00\x01\x01a\x80",
		"\x80\x00\x00", "\x81\x00\x01\x00", "\x01\x81\x00\x00", "\x00\x80\x00", "\x00\x80\x80\x80\x80\x00",
		"\x7f\x00", "\x80\x92\xf4\x01", "\x00\x80\x92\xf4\x01", "\x00\x01\x80\x92\xf4\x01",
		body(line(1)), "BR1\x00\x00",
		"\x00\x0d" + commitBytes(commit(numbered(13)))[2:], commitBytes(commit(nil, 1, 2, 3)),
		strings.Repeat("\x00", impl.MaxText), good + strings.Repeat("\x00", impl.MaxText-len(good)),
	} {
		wantDecodedCommit(t, text, decodedCommit{code: impl.ErrForm})
	}
	for _, text := range []string{strings.Repeat("\x00", impl.MaxText+1), good + strings.Repeat("\x00", impl.MaxText), strings.Repeat("\xff", 2*impl.MaxText)} {
		wantDecodedCommit(t, text, decodedCommit{code: impl.ErrLong})
	}
	for _, n := range longerNumbers() {
		for _, text := range []string{n + "\x00", "\x01" + n + "\x00", "\x00" + n, "\x00\x01" + n + "a\x00", "\x00\x01\x01a" + n} {
			wantDecodedCommit(t, text, decodedCommit{code: impl.ErrForm})
		}
	}
}

// TestPromise14ChangedCommits expects of every text near an encoding that it
// is the encoding of another commit, or of none.
func TestPromise14ChangedCommits(t *testing.T) {
	for _, c := range []impl.Commit{
		{}, commit(nil, 1), commit(nil, 60, 59), commit(numbered(impl.MaxKeys), 1, 2),
		commit(entries(entry("a", -impl.MaxValue), entry("ab", 64), entry("abcdefghijkl", impl.MaxValue)), 7),
	} {
		text, _ := impl.EncodeCommit(c)
		changedBytes(text, func(changed string) {
			got := decodeCommit(changed)
			if want := modelDecodeCommit(changed); !got.same(want) {
				t.Fatalf("DecodeCommit %x: %v; want %v", changed, got, want)
			}
			if got.code != 0 {
				return
			}
			if again, code := impl.EncodeCommit(got.c); again != changed || code != 0 || changed == text {
				t.Fatalf("EncodeCommit of DecodeCommit %x: %x %d", changed, again, code)
			}
		})
	}
}
