package tests

import (
	"fmt"
	"slices"
	"strings"
	"testing"

	"loop.example/g00737/impl"
)

// wantMapText expects that a map has this text and is recovered from it.
func wantMapText(t *testing.T, what string, m []impl.Entry, text string) {
	t.Helper()
	if got, code := impl.MapText(m); got != text || code != 0 {
		t.Fatalf("MapText %s: %q %d; want %q", what, got, code, text)
	}
	if got := readMap(text); !got.same(mapped{m: m}) {
		t.Fatalf("ReadMap %s of %q: %v; want %v", what, text, got, m)
	}
}

func wantEditsText(t *testing.T, what string, list []impl.Edit, text string) {
	t.Helper()
	if got, code := impl.EditsText(list); got != text || code != 0 {
		t.Fatalf("EditsText %s: %q %d; want %q", what, got, code, text)
	}
	if got := readEdits(text); !got.same(editing{list: list}) {
		t.Fatalf("ReadEdits %s of %q: %v; want %v", what, text, got, list)
	}
}

// wantNoMap and wantNoEdits expect a code for a text.
func wantNoMap(t *testing.T, text string, code int) {
	t.Helper()
	if got := readMap(text); !got.same(mapped{code: code}) {
		t.Fatalf("ReadMap %s: %v; want %d", brief(text), got, code)
	}
}

func wantNoEdits(t *testing.T, text string, code int) {
	t.Helper()
	if got := readEdits(text); !got.same(editing{code: code}) {
		t.Fatalf("ReadEdits %s: %v; want %d", brief(text), got, code)
	}
}

// checkRead reads any text, and expects that whatever is read has this text.
func checkRead(t *testing.T, text string) (mapped, editing) {
	t.Helper()
	m, list := readMap(text), readEdits(text)
	if want := modelReadMap(text); !m.same(want) {
		t.Fatalf("ReadMap %q: %v; want %v", text, m, want)
	}
	if want := modelReadEdits(text); !list.same(want) {
		t.Fatalf("ReadEdits %q: %v; want %v", text, list, want)
	}
	if m.code == 0 {
		wantMapText(t, "read", m.m, text)
	}
	if list.code == 0 {
		wantEditsText(t, "read", list.list, text)
	}
	return m, list
}

func TestPromise15MapExamples(t *testing.T) {
	wantMapText(t, "nil", nil, "-")
	wantMapText(t, "empty", entries(), "-")
	wantMapText(t, "one", entries(entry("a", 1)), "a=1")
	wantMapText(t, "zero", entries(entry("_", 0)), "_=0")
	wantMapText(t, "limits", entries(entry("Z9", impl.MaxValue), entry("abcdefghijkl", -impl.MaxValue)), "Z9=1000000,abcdefghijkl=-1000000")
	wantMapText(t, "signs", entries(entry("A", -1), entry("a", 10), entry("b", -20), entry("c", 100)), "A=-1,a=10,b=-20,c=100")
	wantMapText(t, "prefixes", entries(entry("a", 1), entry("aa", 2), entry("ab", 3), entry("b", 4)), "a=1,aa=2,ab=3,b=4")
	full := "k00=0,k01=1,k02=2,k03=3,k04=4,k05=5,k06=6,k07=7,k08=8,k09=9,k10=10,k11=11"
	wantMapText(t, "MaxKeys", numbered(impl.MaxKeys), full)
	wantNoMap(t, full+",k12=12", impl.ErrForm)
	wantNoMap(t, full+",k12", impl.ErrForm)
	wantNoMap(t, full+",", impl.ErrForm)
}

func TestPromise15EditsExamples(t *testing.T) {
	wantEditsText(t, "nil", nil, "-")
	wantEditsText(t, "empty", []impl.Edit{}, "-")
	wantEditsText(t, "set", []impl.Edit{set("a", 1)}, "a=1")
	wantEditsText(t, "zero", []impl.Edit{set("a", 0)}, "a=0")
	wantEditsText(t, "gone", []impl.Edit{gone("a")}, "!a")
	wantEditsText(t, "limits", []impl.Edit{set("Z9", -impl.MaxValue), gone("_"), set("abcdefghijkl", impl.MaxValue)}, "Z9=-1000000,!_,abcdefghijkl=1000000")
	wantEditsText(t, "mixed", []impl.Edit{gone("A"), set("a", -7), gone("aa"), gone("b"), set("c", 0)}, "!A,a=-7,!aa,!b,c=0")
	full := "k00=0,k01=1,k02=2,k03=3,k04=4,k05=5"
	wantEditsText(t, "MaxEdits", numberedEdits(impl.MaxEdits), full)
	wantNoEdits(t, full+",k06=6", impl.ErrForm)
	wantNoEdits(t, full+",!k06", impl.ErrForm)
	all := "!k0,!k1,!k2,!k3,!k4,!k5"
	wantEditsText(t, "MaxEdits gone", []impl.Edit{gone("k0"), gone("k1"), gone("k2"), gone("k3"), gone("k4"), gone("k5")}, all)
	wantNoEdits(t, all+",!k6", impl.ErrForm)
	wantNoEdits(t, all+",", impl.ErrForm)
}

func TestPromise15EveryMap(t *testing.T) {
	for _, c := range mapCases() {
		if !c.bad {
			wantMapText(t, c.name, c.m, entriesText(c.m))
			continue
		}
		text, code := impl.MapText(c.m)
		if want := first(c.long, impl.ErrLong, true, impl.ErrBad); text != "" || code != want {
			t.Errorf("MapText %s: %q %d; want %d", c.name, text, code, want)
		}
		wantNoMap(t, entriesText(c.m), first(len(entriesText(c.m)) > impl.MaxText, impl.ErrLong, true, impl.ErrForm))
	}
	for n := range impl.MaxKeys + 1 {
		wantMapText(t, fmt.Sprint(n, " entries"), numbered(n), entriesText(numbered(n)))
	}
	for _, store := range grownStores() {
		for _, c := range store {
			wantMapText(t, "grown", c.Map, entriesText(c.Map))
		}
	}
}

func TestPromise15EveryEdits(t *testing.T) {
	for _, c := range editCases() {
		if !c.bad {
			wantEditsText(t, c.name, c.list, partsText(c.list))
			continue
		}
		text, code := impl.EditsText(c.list)
		if want := first(c.long, impl.ErrLong, true, impl.ErrBad); text != "" || code != want {
			t.Errorf("EditsText %s: %q %d; want %d", c.name, text, code, want)
		}
	}
	for n := range impl.MaxEdits + 1 {
		wantEditsText(t, fmt.Sprint(n, " edits"), numberedEdits(n), partsText(numberedEdits(n)))
	}
	for _, list := range validEdits() {
		wantEditsText(t, "valid", list, partsText(list))
	}
}

// TestPromise15Gone has edits that are gone and something else, which have no
// text, and texts of that kind.
func TestPromise15Gone(t *testing.T) {
	for _, e := range []impl.Edit{gone(""), gone("1"), gone("a b"), gone("!a"), gone("a=1"), gone("abcdefghijklm"), {Key: "a", Value: 1, Gone: true}, {Key: "a", Value: -impl.MaxValue, Gone: true}, {Gone: true}} {
		for _, list := range [][]impl.Edit{{e}, {set("A", 1), e}, {e, gone("z")}} {
			if text, code := impl.EditsText(list); text != "" || code != impl.ErrBad {
				t.Errorf("EditsText %v: %q %d", list, text, code)
			}
		}
	}
	for _, part := range []string{"!", "!!", "!!a", "a!", "!a!", "!1", "!a=1", "!a=0", "!a=", "!=1", "!-", "-!", "!-a", "! a", "!a ", " !a", "a=!1", "a=1!", "!a b", "!abcdefghijklm", "!\u00e9", "!a\x00"} {
		for _, text := range []string{part, "A=1," + part, part + ",z=1", "!A," + part + ",!z"} {
			wantNoEdits(t, text, impl.ErrForm)
			wantNoMap(t, text, impl.ErrForm)
		}
	}
	for _, text := range []string{"!a", "a=1,!b", "!a,b=1", "!a,!b"} {
		wantNoMap(t, text, impl.ErrForm)
	}
}

func TestPromise15Order(t *testing.T) {
	for _, text := range []string{
		"b=1,a=1", "a=1,c=1,b=1", "a=1,a=1", "a=1,a=2", "a=1,b=1,a=1", "aa=1,a=1", "a=1,B=1", "_=1,Z=1", "a=1,_=1", "k1=1,k0=1", "k10=1,k1=1", "b=1,!a", "!b,a=1", "!b,!a", "!a,!a", "a=1,!a", "!a,a=1", "!a,b=1,!b", "a=0,!a",
	} {
		wantNoMap(t, text, impl.ErrForm)
		wantNoEdits(t, text, impl.ErrForm)
	}
}

func TestPromise15Malformed(t *testing.T) {
	for _, text := range []string{
		"", " ", "--", "- ", " -", "-,", ",-", "-,-", "-,a=1", "a=1,-", "-a", "-=1", "-1", "0", "1", "1=1", "empty", "nil",
		",", ",,", "=", "==", "=1", "a", "a,", "a=", "a=,", "a=1,", ",a=1", "a=1,,b=1", ",a=1,", "a=1,b", "a,b=1", "a=1,b=", "a=1,=1",
		"a==1", "a=1=", "a=1=2", "=a=1", "a=b", "a=b=1", "a:1", "a 1", "a =1", "a= 1", " a=1", "a=1 ", "a=1, b=1", "a=1 ,b=1", "a=1;b=1", "a=1 b=1", "a=1\n", "\ta=1", "a=1,\nb=1", "\"a\"=1", "a=\"1\"", "{a=1}",
		"1a=1", "a-=1", "a.b=1", "\u00e9=1", "a\u00e9=1", "\xff=1", "a\x00=1", "\x00", "abcdefghijklm=1", "a=1,abcdefghijklm=1",
	} {
		wantNoMap(t, text, impl.ErrForm)
		wantNoEdits(t, text, impl.ErrForm)
	}
}

func TestPromise15Integers(t *testing.T) {
	for text, valid := range integers() {
		for _, around := range [][2]string{{"a=", ""}, {"A=1,a=", ""}, {"a=", ",b=1"}, {"A=0,a=", ",b=0"}} {
			whole := around[0] + text + around[1]
			m, list := checkRead(t, whole)
			if want := first(!valid, impl.ErrForm); m.code != want || list.code != want {
				t.Fatalf("ReadMap, ReadEdits %s: %d %d; want %d", brief(whole), m.code, list.code, want)
			}
		}
	}
	for v := -impl.MaxValue; v <= impl.MaxValue; v += 1 + (v&15)*(v&15) {
		wantMapText(t, "value", entries(entry("a", v)), fmt.Sprint("a=", v))
		wantEditsText(t, "value", []impl.Edit{set("a", v)}, fmt.Sprint("a=", v))
	}
	for v := impl.MaxValue - 100; v <= impl.MaxValue+100; v++ {
		for _, text := range []string{fmt.Sprint("a=", v), fmt.Sprint("a=-", v), fmt.Sprint("a=0", v)} {
			checkRead(t, text)
		}
	}
}

func TestPromise15Names(t *testing.T) {
	for _, c := range textCases() {
		if len(c.t) > impl.MaxText-2 {
			continue
		}
		for _, text := range []string{c.t, c.t + "=1", "!" + c.t, "A0=1," + c.t + "=1", c.t + "=1,zz=1"} {
			checkRead(t, text)
		}
		if c.isName {
			wantMapText(t, brief(c.t), entries(entry(c.t, 1)), c.t+"=1")
			wantEditsText(t, brief(c.t), []impl.Edit{gone(c.t)}, "!"+c.t)
		}
	}
}

func TestPromise15EveryText(t *testing.T) {
	maps, edits := 0, 0
	everyText("abB=01-,!", 6, func(text string) {
		m, list := checkRead(t, text)
		if m.code == 0 {
			maps++
		}
		if list.code == 0 {
			edits++
		}
	})
	if maps < 200 || edits < maps+200 {
		t.Error("maps", maps, "edits", edits)
	}
}

func TestPromise15NearTexts(t *testing.T) {
	for _, text := range []string{"-", "a=1", "!a", "a=1000000", "a=-1000000,b=0", "a=10,!b,c=-10", "A=1,aa=2,b=3", "abcdefghijkl=0,!b"} {
		read := 0
		nearTexts(text, func(near string) {
			m, list := checkRead(t, near)
			if m.code == 0 || list.code == 0 {
				read++
			}
		})
		if read < 5 && text != "-" {
			t.Error("texts near", text, read)
		}
	}
}

func TestPromise15LongTexts(t *testing.T) {
	for _, text := range []string{"", "-", "a=1", "!a", "a=1,b=2", "x"} {
		for _, pad := range []string{" ", ",", "-", "0", "a", "!", "\x00", "\xff", ",a=1", "!a,"} {
			pad = strings.Repeat(pad, impl.MaxText)
			full := (text + pad)[:impl.MaxText]
			wantNoMap(t, full, impl.ErrForm)
			wantNoEdits(t, full, impl.ErrForm)
			for _, long := range []string{full + pad[:1], text + pad + "x", pad + pad} {
				wantNoMap(t, long, impl.ErrLong)
				wantNoEdits(t, long, impl.ErrLong)
			}
		}
	}
}

// TestPromise15Differences reads the texts of all differences between maps,
// also when they are too many for edits.
func TestPromise15Differences(t *testing.T) {
	many, few := 0, 0
	for _, a := range mapCases() {
		for _, b := range mapCases() {
			list, code := impl.Diff(a.m, b.m)
			if code != 0 {
				continue
			}
			if len(list) > impl.MaxEdits {
				if text, code := impl.EditsText(list); text != "" || code != impl.ErrBad {
					t.Fatal("EditsText of too many", text, code)
				}
				wantNoEdits(t, partsText(list), impl.ErrForm)
				many++
				continue
			}
			few++
			wantEditsText(t, a.name+", "+b.name, list, partsText(list))
			next, code := impl.ApplyEdits(a.m, readEdits(partsText(list)).list)
			if code != 0 || !slices.Equal(next, b.m) {
				t.Fatal("ApplyEdits of ReadEdits", a.name, b.name, next, code)
			}
		}
	}
	if many == 0 || few == 0 {
		t.Error("differences", many, few)
	}
}
