package tests

import (
	"fmt"
	"slices"
	"strings"
	"testing"

	"loop.example/g00737/impl"
)

// wantEncoded expects that a repository has this encoding and is recovered from
// it.
func wantEncoded(t *testing.T, what string, b impl.Base, text string) {
	t.Helper()
	if got, code := impl.EncodeBase(b); got != text || code != 0 {
		t.Fatalf("EncodeBase %s: %x %d; want %x", what, got, code, text)
	}
	if got := decodeBase(text); !got.same(decodedBase{b: b}) {
		t.Fatalf("DecodeBase %s of %x: %v; want %v", what, text, got, b)
	}
}

// wantNoBase expects a code for a text.
func wantNoBase(t *testing.T, what, text string, code int) {
	t.Helper()
	if got := decodeBase(text); !got.same(decodedBase{code: code}) {
		t.Fatalf("DecodeBase %s, %s: %v; want %d", what, brief(text), got, code)
	}
}

func TestPromise14BaseExamples(t *testing.T) {
	wantEncoded(t, "least", base(line(1)), sealed("BR1\x01\x00\x01\x01n\x00\x00"))
	wantEncoded(t, "nothing in it", base([]impl.Commit{{}}), sealed("BR1\x01\x00\x00\x00"))
	wantEncoded(t, "new", base([]impl.Commit{{}}, live("main", 1, 1)), "BR1\x01\x00\x00\x01\x04main\x01\x01"+number(modelSum("BR1\x01\x00\x00\x01\x04main\x01\x01")))
	wantEncoded(t, "gone", base([]impl.Commit{{}}, deleted("m", impl.MaxValue)), sealed("BR1\x01\x00\x00\x01\x01m\xc0\x84\x3d\x00"))
	wantEncoded(t, "some", base([]impl.Commit{commit(entries(entry("a", 1))), commit(nil, 1), commit(entries(entry("b", -2)), 2, 1)}, live("main", 3, 300), deleted("old", 2), live("abcdefghijkl", 1, 1)),
		sealed("BR1\x03\x00\x01\x01a\x02\x01\x01\x00\x02\x02\x01\x01\x01b\x03\x03\x04main\xac\x02\x03\x03old\x02\x00\x0cabcdefghijkl\x01\x01"))
}

func TestPromise14EveryBase(t *testing.T) {
	for _, c := range baseCases() {
		if !c.bad {
			wantEncoded(t, c.name, c.b, baseBytes(c.b))
			continue
		}
		if text, code := impl.EncodeBase(c.b); text != "" || code != impl.ErrBad {
			t.Fatalf("EncodeBase %s: %x %d", c.name, text, code)
		}
	}
	for i, store := range grownStores() {
		wantEncoded(t, fmt.Sprint("grown ", i), base(store, someRefs()...), baseBytes(base(store, someRefs()...)))
	}
	everyStore(3, func(store []impl.Commit) {
		b := base(store, live("main", 3, 3), deleted("old", 2), live("dev", 1, 1))
		wantEncoded(t, fmt.Sprint(store), b, baseBytes(b))
	})
}

// TestPromise14LargestBase has as much of everything as there can be.
func TestPromise14LargestBase(t *testing.T) {
	m := entries()
	for _, e := range numbered(impl.MaxKeys) {
		m = append(m, entry("key_name_"+e.Key, impl.MaxValue))
	}
	store := ladder(impl.MaxCommits)
	for i := range store {
		store[i].Map = m
	}
	b := base(store)
	for i := range impl.MaxRefs {
		b.Refs = append(b.Refs, live(fmt.Sprintf("branch_name%d", i), impl.MaxCommits, impl.MaxValue-i))
	}
	wantEncoded(t, "largest", b, baseBytes(b))
}

// TestPromise14Invalid has structures that are right, with repositories that
// are not: with the right sum that is found, and with a wrong one it is not
// looked at.
func TestPromise14Invalid(t *testing.T) {
	for name, text := range invalidBodies() {
		wantNoBase(t, name, sealed(text), impl.ErrBad)
		wantNoBase(t, name+", wrong sum", text+number(modelSum(text)+1), impl.ErrStale)
		wantNoBase(t, name+", wrong sum", text+number(0), impl.ErrStale)
		wantNoBase(t, name+", nothing behind", text, impl.ErrForm)
		wantNoBase(t, name+", a byte more", sealed(text)+"\x00", impl.ErrForm)
	}
}

// invalidBodies keeps to the limits of the structure.
func invalidBodies() map[string]string {
	one := line(1)
	list := map[string]string{
		"nothing":            body(nil),
		"no commits":         body(nil, live("main", 1, 1)),
		"all gone":           body(nil, deleted("main", 1)),
		"first with itself":  body([]impl.Commit{commit(nil, 1)}),
		"second with itself": body(append(one, commit(nil, 2))),
		"without parents":    body(append(one, commit(nil))),
		"parent 0":           body(append(one, commit(nil, 0))),
		"parent later":       body(append(one, commit(nil, 3), commit(nil, 1))),
		"parent 61":          body(append(one, commit(nil, 61))),
		"parent 4000000":     body(append(one, commit(nil, greatestNumber))),
		"equal parents":      body(append(line(2), commit(nil, 1, 1))),
		"head 2 of 1":        body(one, live("main", 2, 1)),
		"head 61":            body(line(impl.MaxCommits), live("main", 61, 1)),
		"head 4000000":       body(one, live("main", greatestNumber, 1)),
		"version 0":          body(one, live("main", 1, 0)),
		"version 0, gone":    body(one, deleted("main", 0)),
		"version, too great": body(one, live("main", 1, impl.MaxValue+1)),
		"version, gone":      body(one, deleted("main", impl.MaxValue+1)),
		"version 4000000":    body(one, live("main", 1, greatestNumber)),
		"name twice":         body(one, live("main", 1, 1), live("main", 1, 1)),
		"name twice, gone":   body(one, live("main", 1, 1), deleted("main", 2)),
		"unsorted":           body([]impl.Commit{commit(entries(entry("b", 1), entry("a", 1)))}),
		"key twice":          body([]impl.Commit{commit(entries(entry("a", 1), entry("a", 1)))}),
		"last map":           body(append(line(59), commit(entries(entry("b", 1), entry("a", 1)), 1))),
	}
	for _, v := range []int{impl.MaxValue + 1, -impl.MaxValue - 1, 2 * impl.MaxValue, -2 * impl.MaxValue} {
		list[fmt.Sprint("value ", v)] = body([]impl.Commit{commit(entries(entry("a", v)))})
	}
	for _, text := range []string{"", "1", "a-", "\x00", "\xc3\xa9", "\xff\xff", "a\x00", "            "} {
		list[fmt.Sprintf("key %q", text)] = body([]impl.Commit{commit(entries(entry(text, 1)))})
		list[fmt.Sprintf("name %q", text)] = body(one, live("main", 1, 1), live(text, 1, 1))
	}
	return list
}

// TestPromise14Malformed has texts without the structure, also with the sum of
// what is there.
func TestPromise14Malformed(t *testing.T) {
	one, new := line(1), body(line(1), live("main", 1, 1))
	wantEncoded(t, "right", base(one, live("main", 1, 1)), sealed(new))
	for _, text := range []string{
		"", "B", "BR", "BR1", "BR1\x01", "BR1\x01\x00", "BR1\x01\x00\x00", "BR1\x00", "BR1\x3d", "BR1\x01\x00\x0d", "BR1\x01\x03", "BR1\x01\x00\x00\x09",
		"br1" + new[3:], "BR2" + new[3:], "BR" + new[3:], "BR11" + new[3:], "B\xc3\x92" + new[3:], "\x00R1" + new[3:], "B" + new[2:], new[3:], " " + new,
		body(line(impl.MaxCommits + 1)), body(line(impl.MaxCommits+1), live("main", 1, 1)),
		body(append(line(3), commit(nil, 1, 2, 3))), body(append(line(3), commit(nil, 1, 1, 1))),
		body([]impl.Commit{commit(numbered(impl.MaxKeys + 1))}), body(append(line(2), commit(numbered(impl.MaxKeys+1), 1))),
		body(one, numberedRefs(impl.MaxRefs+1)...), body(one, goneFull()...) + "\x00",
		body([]impl.Commit{commit(entries(entry("abcdefghijklm", 1)))}), body(one, live("abcdefghijklm", 1, 1)), body(one, live("main", 1, 1), deleted("abcdefghijklm", 1)),
		body(one, live("main", 1, greatestNumber+1)), body(one, live("main", greatestNumber+1, 1)), body(append(one, commit(nil, greatestNumber+1))),
		body([]impl.Commit{commit(entries(entry("a", 2*impl.MaxValue+1)))}), body([]impl.Commit{commit(entries(entry("a", -2*impl.MaxValue-1)))}),
		new[:len(new)-1], new + "\x00", new[:3] + "\x81\x00" + new[4:], new[:4] + "\x80\x00" + new[5:], new[:len(new)-1] + "\x81\x00", new[:len(new)-2] + "\x81\x00\x01",
	} {
		wantNoBase(t, "malformed", sealed(text), impl.ErrForm)
	}
}

// TestPromise14Sums has other sums behind what is right.
func TestPromise14Sums(t *testing.T) {
	for _, c := range validBases() {
		text := body(c.b.Store, c.b.Refs...)
		sum := modelSum(text)
		for _, other := range []int{0, 1, 127, 128, sum - 1, sum + 1, sum ^ 1, sum + 1000003, sum + 2*1000003, 1000002, 1000003, greatestNumber} {
			if other != sum && other >= 0 && other <= greatestNumber {
				wantNoBase(t, c.name, text+number(other), impl.ErrStale)
			}
		}
		for _, other := range []string{"", "\x80", "\x80\x00", number(greatestNumber + 1), "\xff\xff\xff\xff\x01", number(sum) + "\x00", number(sum)[:len(number(sum))-1] + "\x80", "\x00" + number(sum)} {
			wantNoBase(t, c.name, text+other, impl.ErrForm)
		}
		longer := []byte(number(sum))
		longer[len(longer)-1] |= 128
		wantNoBase(t, c.name, text+string(longer)+"\x00", impl.ErrForm)
	}
}

func TestPromise14Long(t *testing.T) {
	good := baseBytes(base(crossed(), crossedRefs()...))
	for _, text := range []string{"", "BR1", good, "BR2"} {
		pad := strings.Repeat("\x00", impl.MaxText-len(text))
		wantNoBase(t, "MaxText", text+pad, impl.ErrForm)
		wantNoBase(t, "beyond MaxText", text+pad+"\x00", impl.ErrLong)
		wantNoBase(t, "far beyond MaxText", text+pad+pad+"\xff", impl.ErrLong)
	}
}

// TestPromise14ChangedBases expects that a change of one byte is noticed, and
// that with the sum of the changed bytes another repository is recovered, if
// there is one.
func TestPromise14ChangedBases(t *testing.T) {
	codes := make([]int, impl.ErrSame+1)
	for _, b := range []impl.Base{
		base([]impl.Commit{{}}),
		base(line(2), live("main", 1, 300), deleted("old", 2)),
		base(append(crossed()[:5:5], commit(entries(entry("abcdefghijkl", -impl.MaxValue)), 1)), crossedRefs()[:3]...),
	} {
		text, _ := impl.EncodeBase(b)
		changedBytes(text, func(changed string) {
			got := decodeBase(changed)
			if want := modelDecodeBase(changed); got.code == 0 || !got.same(want) {
				t.Fatalf("DecodeBase %x: %v; want %v", changed, got, want)
			}
			codes[got.code]++
		})
		changedBytes(body(b.Store, b.Refs...), func(changed string) {
			got := decodeBase(sealed(changed))
			if want := modelDecodeBase(sealed(changed)); !got.same(want) {
				t.Fatalf("DecodeBase %x: %v; want %v", changed, got, want)
			}
			codes[got.code]++
			if got.code == 0 {
				wantEncoded(t, "changed", got.b, sealed(changed))
			}
		})
	}
	for _, code := range []int{impl.OK, impl.ErrForm, impl.ErrStale, impl.ErrBad} {
		if codes[code] < 100 {
			t.Error("code", code, "only", codes[code])
		}
	}
}

// TestPromise14NearBases changes one place of a repository at a time.
func TestPromise14NearBases(t *testing.T) {
	for _, c := range validBases()[:6] {
		text := baseBytes(c.b)
		others := []impl.Base{}
		for _, store := range changedStores(c.b.Store) {
			others = append(others, base(store, c.b.Refs...))
		}
		for _, refs := range slices.Concat(changedRefs(c.b), misplacedRefs(c.b.Refs)) {
			others = append(others, base(c.b.Store, refs...))
		}
		for _, other := range others {
			wantEncoded(t, c.name+", changed", other, baseBytes(other))
			if got, _ := impl.EncodeBase(other); (got == text) != sameBases(c.b, other) {
				t.Fatalf("EncodeBase %s: %x for %v and %v", c.name, got, c.b, other)
			}
		}
	}
}
