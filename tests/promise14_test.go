package tests

import (
	"math"
	"slices"
	"strings"
	"testing"

	"loop.example/g00737/impl"
)

func wantTaken(t *testing.T, text string, at int, want taken) {
	t.Helper()
	if got := takeNumber(text, at); got != want {
		t.Fatalf("TakeNumber of %s at %d: %v; want %v", brief(text), at, got, want)
	}
}

func TestPromise14NumberExamples(t *testing.T) {
	for _, v := range []struct {
		n int
		t string
	}{
		{0, "\x00"}, {1, "\x01"}, {127, "\x7f"},
		{128, "\x80\x01"}, {129, "\x81\x01"}, {255, "\xff\x01"}, {256, "\x80\x02"}, {300, "\xac\x02"}, {16383, "\xff\x7f"},
		{16384, "\x80\x80\x01"}, {65536, "\x80\x80\x04"}, {1000000, "\xc0\x84\x3d"}, {2097151, "\xff\xff\x7f"},
		{2097152, "\x80\x80\x80\x01"}, {3999999, "\xff\x91\xf4\x01"}, {4000000, "\x80\x92\xf4\x01"},
	} {
		if text, code := impl.PutNumber(v.n); text != v.t || code != 0 {
			t.Errorf("PutNumber %d: %x %d; want %x", v.n, text, code, v.t)
		}
		wantTaken(t, v.t, 0, taken{n: v.n, next: len(v.t)})
		wantTaken(t, "\xff"+v.t+"\xff", 1, taken{n: v.n, next: 1 + len(v.t)})
	}
}

// TestPromise14EveryNumber also puts all encodings of one length into one
// text, so that each is found where the one before ends.
func TestPromise14EveryNumber(t *testing.T) {
	long := []byte{}
	for n := range greatestNumber + 1 {
		text, code := impl.PutNumber(n)
		if code != 0 || text != number(n) || len(text) < 1 || len(text) > 4 {
			t.Fatalf("PutNumber %d: %x %d", n, text, code)
		}
		if got, next, code := impl.TakeNumber(text, 0); got != n || next != len(text) || code != 0 {
			t.Fatal("TakeNumber of PutNumber", n, got, next, code)
		}
		if n < 300 || n%9973 == 0 {
			long = append(long, text...)
		}
	}
	at := 0
	for n := range greatestNumber + 1 {
		if n < 300 || n%9973 == 0 {
			wantTaken(t, string(long), at, taken{n: n, next: at + len(number(n))})
			at += len(number(n))
		}
	}
	wantTaken(t, string(long), at, taken{code: impl.ErrForm})
}

func TestPromise14NumbersOutOfRange(t *testing.T) {
	for _, n := range append(numbersOfSizes(), values()...) {
		want, code := "", impl.ErrRange
		if n >= 0 && n <= greatestNumber {
			want, code = number(n), impl.OK
		}
		if text, got := impl.PutNumber(n); text != want || got != code {
			t.Errorf("PutNumber %d: %x %d; want %x %d", n, text, got, want, code)
		}
		if n > greatestNumber {
			wantTaken(t, number(n), 0, taken{code: impl.ErrForm})
		}
	}
}

func TestPromise14NoNumber(t *testing.T) {
	for _, text := range append(longerNumbers(), "", "\x80", "\xff", "\x80\x80", "\xff\xff\xff", "\x80\x80\x80\x80", "\x80\x80\x80\x80\x01", "\xff\xff\xff\xff\x00",
		"\x80\x00", "\x80\x80\x00", "\x80\x80\x80\x00", "\x80\x00\x01", "\x80\x00\x80\x01", "\x81\x92\xf4\x01", "\xff\xff\xff\x7f", "\xff\xff\xff\xff\x7f", strings.Repeat("\x80", 11)) {
		for _, before := range []string{"", "\x01", "\x80", "abc"} {
			wantTaken(t, before+text, len(before), taken{code: impl.ErrForm})
		}
	}
}

// TestPromise14EveryText has all texts of two bytes, and longer ones whose
// bytes matter for the limits.
func TestPromise14EveryText(t *testing.T) {
	for a := range 256 {
		wantTaken(t, string([]byte{byte(a)}), 0, modelTake(string([]byte{byte(a)}), 0))
		for b := range 256 {
			text := string([]byte{byte(a), byte(b)})
			wantTaken(t, text, 0, modelTake(text, 0))
		}
	}
	some := []byte{0, 1, 2, 0x7f, 0x80, 0x81, 0x91, 0x92, 0xf3, 0xf4, 0xff}
	var grow func(text []byte)
	grow = func(text []byte) {
		wantTaken(t, string(text), 0, modelTake(string(text), 0))
		if len(text) == 5 {
			return
		}
		for _, c := range some {
			grow(append(text, c))
		}
	}
	grow(make([]byte, 0, 5))
}

func TestPromise14Offsets(t *testing.T) {
	full := strings.Repeat("\x81\x01", impl.MaxText/2)
	for _, text := range []string{"", "\x00", "\x80", "a", "abc", "\x80\x01\x7f", full, full + "\x01", strings.Repeat("\x01", 2*impl.MaxText)} {
		for _, at := range []int{math.MinInt, -impl.MaxText, -2, -1, 0, 1, 2, 3, 4, len(text) - 2, len(text) - 1, len(text), len(text) + 1, impl.MaxText + 1, math.MaxInt - 3, math.MaxInt} {
			wantTaken(t, text, at, modelTake(text, at))
		}
	}
	wantTaken(t, full, 0, taken{n: 129, next: 2})
	wantTaken(t, full, len(full)-1, taken{n: 1, next: len(full)})
	wantTaken(t, full, len(full), taken{code: impl.ErrForm})
	wantTaken(t, full, len(full)+1, taken{code: impl.ErrSize})
	wantTaken(t, full+"\x01", -1, taken{code: impl.ErrLong})
	wantTaken(t, full+"\x01", 0, taken{code: impl.ErrLong})
}

func TestPromise14SumOf(t *testing.T) {
	for _, v := range []struct {
		t   string
		sum int
	}{{"", 1}, {"\x00", 32}, {"a", 129}, {"ab", 4098}, {"\xff", 287}, {"\x00\x00", 993}, {"\xc3\xa9", 31*(31+196) + 170}, {"\x00\x00\x00\x00", 954305}, {"\xff\xff\xff\xff", 804201}} {
		if sum, code := impl.SumOf(v.t); sum != v.sum || code != 0 || modelSum(v.t) != sum {
			t.Errorf("SumOf %x: %d %d; want %d, %d", v.t, sum, code, v.sum, modelSum(v.t))
		}
	}
	texts := []string{"é", "漢字", "a\u0301", "\xed\xa0\x80", string([]byte{0xf0, 0x9f, 0x98, 0x80}), strings.Repeat("\xff", impl.MaxText), strings.Repeat("ü", impl.MaxText/2)}
	for _, c := range textCases() {
		texts = append(texts, c.t)
	}
	for _, text := range append(texts, strings.Repeat("\x00", impl.MaxText+1)) {
		sum, code := impl.SumOf(text)
		if len(text) > impl.MaxText && (sum != 0 || code != impl.ErrLong) || len(text) <= impl.MaxText && (sum != modelSum(text) || code != 0) {
			t.Errorf("SumOf %s: %d %d", brief(text), sum, code)
		}
	}
}

func TestPromise14SumsDiffer(t *testing.T) {
	texts := []string{baseBytes(base(crossed(), crossedRefs()...)), "", "a", "é"}
	for _, text := range texts {
		sum, _ := impl.SumOf(text)
		changedBytes(text, func(changed string) {
			got, code := impl.SumOf(changed)
			if got != modelSum(changed) || code != 0 || len(changed) == len(text) && got == sum {
				t.Fatalf("SumOf %x: %d; that of %x is %d", changed, got, text, sum)
			}
		})
	}
	all := []int{}
	for c := range 256 {
		sum, _ := impl.SumOf(string([]byte{byte(c)}))
		all = append(all, sum)
	}
	slices.Sort(all)
	if len(slices.Compact(all)) != 256 {
		t.Error("SumOf has the same sum for two bytes")
	}
}
