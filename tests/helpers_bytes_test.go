package tests

import (
	"encoding/binary"
	"math"
	"slices"
	"strings"

	"loop.example/g00737/impl"
)

const greatestNumber = 4 * impl.MaxValue

// number, value, word, commitBytes and baseBytes encode anything that has the
// structure, whether it is valid or not.
func number(n int) string { return string(binary.AppendUvarint(nil, uint64(n))) }

func value(v int) string { return string(binary.AppendVarint(nil, int64(v))) }

func word(t string) string { return number(len(t)) + t }

func commitBytes(c impl.Commit) string {
	t := number(len(c.Parents))
	for _, p := range c.Parents {
		t += number(p)
	}
	t += number(len(c.Map))
	for _, e := range c.Map {
		t += word(e.Key) + value(e.Value)
	}
	return t
}

func refBytes(r impl.Ref) string { return word(r.Name) + number(r.Version) + number(r.Head) }

// body has all but the sum.
func body(store []impl.Commit, refs ...impl.Ref) string {
	t := "BR1" + number(len(store))
	for _, c := range store {
		t += commitBytes(c)
	}
	t += number(len(refs))
	for _, r := range refs {
		t += refBytes(r)
	}
	return t
}

func sealed(body string) string { return body + number(modelSum(body)) }

func baseBytes(b impl.Base) string { return sealed(body(b.Store, b.Refs...)) }

// modelSum adds what each byte contributes, from the last one on.
func modelSum(t string) int {
	sum, power := 0, 1
	for i := len(t) - 1; i >= 0; i-- {
		sum = (sum + (int(t[i])+1)*power) % 1000003
		power = 31 * power % 1000003
	}
	return (sum + power) % 1000003
}

// taken has the results of TakeNumber.
type taken struct{ n, next, code int }

func takeNumber(t string, at int) taken {
	n, next, code := impl.TakeNumber(t, at)
	return taken{n, next, code}
}

// modelTake accepts what begins with the encoding of the number that is there.
func modelTake(t string, at int) taken {
	if code := first(len(t) > impl.MaxText, impl.ErrLong, at < 0 || at > len(t), impl.ErrSize); code != 0 {
		return taken{code: code}
	}
	n, size := binary.Uvarint([]byte(t[at:]))
	if size <= 0 || n > greatestNumber || !strings.HasPrefix(t[at:], number(int(n))) {
		return taken{code: impl.ErrForm}
	}
	return taken{n: int(n), next: at + len(number(int(n)))}
}

type decodedCommit struct {
	c    impl.Commit
	code int
}

func decodeCommit(t string) decodedCommit {
	c, code := impl.DecodeCommit(t)
	return decodedCommit{c, code}
}

func (d decodedCommit) same(other decodedCommit) bool {
	return d.code == other.code && sameCommits([]impl.Commit{d.c}, []impl.Commit{other.c})
}

type decodedBase struct {
	b    impl.Base
	code int
}

func decodeBase(t string) decodedBase {
	b, code := impl.DecodeBase(t)
	return decodedBase{b, code}
}

func (d decodedBase) same(other decodedBase) bool {
	return d.code == other.code && sameBases(d.b, other.b)
}

// parser goes on with zeros behind a fault.
type parser struct {
	t     string
	at    int
	fault bool
}

func (p *parser) number(most int) int {
	x := modelTake(p.t, p.at)
	if p.fault || x.code != 0 || x.n > most {
		p.fault = true
		return 0
	}
	p.at = x.next
	return x.n
}

func (p *parser) word() string {
	size := p.number(impl.MaxName)
	if p.fault || p.at+size > len(p.t) {
		p.fault = true
		return ""
	}
	p.at += size
	return p.t[p.at-size : p.at]
}

func (p *parser) commit() impl.Commit {
	c := impl.Commit{}
	for range p.number(impl.MaxParents) {
		c.Parents = append(c.Parents, p.number(greatestNumber))
	}
	for range p.number(impl.MaxKeys) {
		key := p.word()
		v, _ := binary.Varint([]byte(number(p.number(greatestNumber))))
		c.Map = append(c.Map, entry(key, int(v)))
	}
	return c
}

func (p *parser) base() impl.Base {
	b := impl.Base{}
	p.fault = p.fault || !strings.HasPrefix(p.t, "BR1")
	p.at = 3
	for range p.number(impl.MaxCommits) {
		b.Store = append(b.Store, p.commit())
	}
	for range p.number(impl.MaxRefs) {
		r := impl.Ref{Name: p.word(), Version: p.number(greatestNumber), Head: p.number(greatestNumber)}
		r.Gone = r.Head == 0
		b.Refs = append(b.Refs, r)
	}
	return b
}

func modelDecodeCommit(t string) decodedCommit {
	p := &parser{t: t}
	c := p.commit()
	if code := first(len(t) > impl.MaxText, impl.ErrLong, p.fault || p.at != len(t) || !encodes(c), impl.ErrForm); code != 0 {
		return decodedCommit{code: code}
	}
	return decodedCommit{c: c}
}

func modelDecodeBase(t string) decodedBase {
	p := &parser{t: t}
	b := p.base()
	end := p.at
	sum := p.number(greatestNumber)
	fault := p.fault || p.at != len(t)
	code := first(len(t) > impl.MaxText, impl.ErrLong, fault, impl.ErrForm, !fault && sum != modelSum(t[:min(end, len(t))]), impl.ErrStale, !impl.BaseOK(b), impl.ErrBad)
	if code != 0 {
		return decodedBase{code: code}
	}
	return decodedBase{b: b}
}

// encodes is what EncodeCommit asks of a commit.
func encodes(c impl.Commit) bool {
	for i, p := range c.Parents {
		if p < 1 || p > impl.MaxCommits || slices.Contains(c.Parents[:i], p) {
			return false
		}
	}
	return len(c.Parents) <= impl.MaxParents && impl.MapOK(c.Map)
}

// numbersOfSizes has the least and the greatest number of each length, and
// those beyond both ends.
func numbersOfSizes() []int {
	return []int{
		math.MinInt, -impl.MaxValue, -128, -2, -1, 0, 1, 2, 126, 127, 128, 129, 255, 256, 300, 16382, 16383, 16384, 16385, 65536,
		impl.MaxValue, 2097150, 2097151, 2097152, 2097153, greatestNumber - 1, greatestNumber, greatestNumber + 1, greatestNumber + 128,
		1<<28 - 1, 1 << 28, 1 << 32, 1<<32 + 1, math.MaxInt,
	}
}

// longerNumbers encodes numbers in more bytes than necessary.
func longerNumbers() []string {
	list := []string{}
	for _, n := range []int{0, 1, 127, 128, 300, 16383, 16384, 2097151, 2097152, greatestNumber} {
		t := []byte(number(n))
		for range 5 {
			t[len(t)-1] |= 128
			t = append(t, 0)
			list = append(list, string(t))
		}
	}
	return list
}

// changedBytes passes t with every other byte at every position, with a byte
// less, with a byte more, and every beginning.
func changedBytes(t string, run func(changed string)) {
	for at := range len(t) {
		run(t[:at])
		run(t[:at] + t[at+1:])
		for other := range 256 {
			if byte(other) != t[at] {
				run(t[:at] + string([]byte{byte(other)}) + t[at+1:])
			}
		}
	}
	for at := range len(t) + 1 {
		for _, more := range []byte{0, 1, 12, 127, 128, 255, 'a'} {
			run(t[:at] + string([]byte{more}) + t[at:])
		}
	}
}
