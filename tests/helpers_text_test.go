package tests

import (
	"fmt"
	"regexp"
	"slices"
	"strconv"
	"strings"

	"loop.example/g00737/impl"
)

const (
	nameShape    = `[A-Za-z_][A-Za-z0-9_]{0,11}`
	integerShape = `0|-?[1-9][0-9]{0,17}`
)

var (
	setPart  = regexp.MustCompile(`\A(` + nameShape + `)=(` + integerShape + `)\z`)
	gonePart = regexp.MustCompile(`\A!(` + nameShape + `)\z`)
	twoWords = regexp.MustCompile(`\A(delete|scan) (` + nameShape + `)\z`)
	names3   = regexp.MustCompile(`\A(create|merge|get) (` + nameShape + `) (` + nameShape + `)\z`)
	commits3 = regexp.MustCompile(`\Acommit (` + nameShape + `) ([^ ]+)\z`)
)

// mapped, edited and wished have the results of reading a text.
type mapped struct {
	m    []impl.Entry
	code int
}

type editing struct {
	list []impl.Edit
	code int
}

type wished struct {
	w    impl.Wish
	code int
}

func readMap(t string) mapped {
	m, code := impl.ReadMap(t)
	return mapped{m, code}
}

func readEdits(t string) editing {
	list, code := impl.ReadEdits(t)
	return editing{list, code}
}

func readWish(t string) wished {
	w, code := impl.ReadWish(t)
	return wished{w, code}
}

func (x mapped) same(y mapped) bool { return x.code == y.code && slices.Equal(x.m, y.m) }

func (x editing) same(y editing) bool { return x.code == y.code && slices.Equal(x.list, y.list) }

func (x wished) same(y wished) bool { return x.code == y.code && sameWishes(x.w, y.w) }

// modelParts reads at most that many parts with increasing keys.
func modelParts(t string, most int) ([]impl.Edit, bool) {
	list := []impl.Edit{}
	if t == "-" {
		return list, true
	}
	parts := strings.Split(t, ",")
	for _, part := range parts[:min(len(parts), most+1)] {
		e := impl.Edit{}
		if x := gonePart.FindStringSubmatch(part); x != nil {
			e = gone(x[1])
		} else if x := setPart.FindStringSubmatch(part); x != nil {
			n, err := strconv.ParseInt(x[2], 10, 64)
			if err != nil || n < -1000000 || n > 1000000 {
				return nil, false
			}
			e = set(x[1], int(n))
		} else {
			return nil, false
		}
		list = append(list, e)
	}
	increasing := slices.IsSortedFunc(list, func(a, b impl.Edit) int {
		return map[bool]int{true: -1, false: 0}[a.Key <= b.Key]
	})
	return list, increasing && len(list) <= most
}

func modelReadMap(t string) mapped {
	out := mapped{}
	list, ok := modelParts(t, 12)
	if code := first(len(t) > 65536, impl.ErrLong, !ok || strings.Contains(t, "!"), impl.ErrForm); code != 0 {
		return mapped{code: code}
	}
	for _, e := range list {
		out.m = append(out.m, entry(e.Key, e.Value))
	}
	return out
}

func modelReadEdits(t string) editing {
	list, ok := modelParts(t, 6)
	if code := first(len(t) > 65536, impl.ErrLong, !ok, impl.ErrForm); code != 0 {
		return editing{code: code}
	}
	return editing{list: list}
}

func modelReadWish(t string) wished {
	if len(t) > 65536 {
		return wished{code: impl.ErrLong}
	}
	words := slices.DeleteFunc(strings.Split(t, " "), func(word string) bool { return word == "" })
	t = strings.Join(words, " ")
	if x := twoWords.FindStringSubmatch(t); x != nil {
		return wished{w: map[string]impl.Wish{"delete": wishDelete(x[2]), "scan": wishScan(x[2])}[x[1]]}
	}
	if x := names3.FindStringSubmatch(t); x != nil {
		return wished{w: map[string]impl.Wish{"create": wishCreate(x[2], x[3]), "merge": wishMerge(x[2], x[3]), "get": wishGet(x[2], x[3])}[x[1]]}
	}
	if x := commits3.FindStringSubmatch(t); x != nil {
		if list, ok := modelParts(x[2], 6); ok {
			return wished{w: wishCommit(x[1], list...)}
		}
	}
	return wished{code: impl.ErrForm}
}

// partsText writes parts, valid or not.
func partsText(list []impl.Edit) string {
	if len(list) == 0 {
		return "-"
	}
	t := ""
	for _, e := range list {
		if e.Gone {
			t += fmt.Sprintf(",!%s", e.Key)
		} else {
			t += fmt.Sprintf(",%s=%d", e.Key, e.Value)
		}
	}
	return t[1:]
}

func entriesText(m []impl.Entry) string {
	list := []impl.Edit{}
	for _, e := range m {
		list = append(list, set(e.Key, e.Value))
	}
	return partsText(list)
}

// wishText is for wishes of a Kind from 1 to 6.
func wishText(w impl.Wish) string {
	return []string{
		1: fmt.Sprintf("create %s %s", w.Name, w.Source),
		2: fmt.Sprintf("delete %s", w.Name),
		3: fmt.Sprintf("commit %s %s", w.Name, partsText(w.Edits)),
		4: fmt.Sprintf("merge %s %s", w.Name, w.Source),
		5: fmt.Sprintf("get %s %s", w.Name, w.Key),
		6: fmt.Sprintf("scan %s", w.Name),
	}[w.Kind]
}

// texts has a text and its code.
type texts struct {
	t    string
	code int
}

func resultText(r impl.Result) texts {
	t, code := impl.ResultText(r)
	return texts{t, code}
}

func momentText(m impl.Moment) texts {
	t, code := impl.MomentText(m)
	return texts{t, code}
}

func modelResultText(r impl.Result) texts {
	noName := func(key string) bool { return !impl.NameOK(key) }
	switch {
	case r.Code < 0 || r.Code > 18 || r.Commit < 0 || r.Commit > 60 || r.Value < -1000000 || r.Value > 1000000:
		return texts{code: impl.ErrBad}
	case len(r.Keys) > 24 || slices.ContainsFunc(r.Keys, noName) || !impl.MapOK(r.Map):
		return texts{code: impl.ErrBad}
	}
	t := strings.Fields("ok bad long form range none many full size kind name conflict retries stale exists done order lag same")[r.Code]
	if r.Commit > 0 {
		t += fmt.Sprintf(" commit %d", r.Commit)
	}
	if r.Value != 0 {
		t += fmt.Sprintf(" value %d", r.Value)
	}
	if len(r.Keys) > 0 {
		t += " keys " + strings.Join(r.Keys, ",")
	}
	if len(r.Map) > 0 {
		t += " map " + entriesText(r.Map)
	}
	return texts{t: t}
}

func modelMomentText(m impl.Moment) texts {
	result := modelResultText(m.Result)
	within := m.Step >= 0 && m.Step <= 1000000 && m.Client >= 0 && m.Client <= 5 && m.Wish >= 0 && m.Wish <= 6
	if !within || m.Op.Kind != 0 && !impl.OpOK(m.Op) || result.code != 0 {
		return texts{code: impl.ErrBad}
	}
	t := fmt.Sprintf("step %d client %d wish %d", m.Step, m.Client, m.Wish)
	if m.Op.Kind > 0 {
		t += fmt.Sprintf(" %s %s", strings.Fields("- create delete commit merge get scan")[m.Op.Kind], m.Op.Name)
	}
	if m.Op.Kind > 0 && m.Op.From > 0 {
		t += fmt.Sprintf(" from %d", m.Op.From)
	}
	return texts{t: t + ": " + result.t}
}

func modelLines(b impl.Base) []string {
	lines := []string{}
	for i, c := range b.Store {
		t := fmt.Sprintf("commit %d", i+1)
		for _, p := range c.Parents {
			t += fmt.Sprintf(" of %d", p)
		}
		lines = append(lines, t+" map "+entriesText(c.Map))
	}
	for _, r := range b.Refs {
		head := fmt.Sprintf("head %d", r.Head)
		if r.Gone {
			head = "gone"
		}
		lines = append(lines, fmt.Sprintf("branch %s version %d %s", r.Name, r.Version, head))
	}
	return lines
}

// everyText passes all texts of at most n bytes of the alphabet.
func everyText(alphabet string, n int, run func(t string)) {
	run("")
	if n == 0 {
		return
	}
	for i := range len(alphabet) {
		everyText(alphabet, n-1, func(t string) {
			run(alphabet[i:i+1] + t)
		})
	}
}

// nearTexts passes texts with a byte less, another byte or any byte more, and
// with any of these strings more.
func nearTexts(t string, run func(near string)) {
	changedBytes(t, run)
	for at := range len(t) + 1 {
		for more := range 256 {
			run(t[:at] + string([]byte{byte(more)}) + t[at:])
		}
		for _, more := range []string{",,", "--", "!!", "==", "=1", ",!", "00", "a=1,", ",a=1", ",z=1", ",!z", "é", "\u00a0", " a ", "  ", "\r\n"} {
			run(t[:at] + more + t[at:])
		}
	}
}

// integers has texts of integers and what is none, with what they are.
func integers() map[string]bool {
	list := map[string]bool{}
	for _, n := range []int{0, 1, -1, 9, 10, -10, 99, 100, 123456, 999999, impl.MaxValue, -999999, -impl.MaxValue} {
		list[fmt.Sprint(n)] = true
	}
	for _, t := range []string{
		"", "-", "--", "--1", "-0", "00", "01", "-01", "-00", "000000", "0000001", "1-", "1-1", "0x1", "0b1", "0o7", "1e3", "1_000", "1.0", "1,0", ".", "1.", "+1", "+0", "+", " 1", "1 ", "- 1", "1\n", "\t1",
		"1a", "a", "٣", "１", "½", "\x001", "1\x00", "NaN", "1000001", "-1000001", "1000010", "2000000", "9999999", "-9999999", "10000000",
		"123456789012345678", "-123456789012345678", "999999999999999999", "-999999999999999999", "1000000000000000000", "1234567890123456789", "-1234567890123456789",
		"000000000000000001", "0000000000000000001", "-000000000000000001", "000000000000000000", "0000000000000000000",
		"9223372036854775807", "9223372036854775808", "-9223372036854775808", "-9223372036854775809", "4294967296", "4294967297", "18446744073709551615", "18446744073709551616", "18446744073709551617", "-18446744073709551615", "340282366920938463463374607431768211457",
		strings.Repeat("0", 1000), strings.Repeat("1", 1000), "-" + strings.Repeat("9", 60000), strings.Repeat("0", 60000) + "1",
	} {
		list[t] = false
	}
	return list
}
