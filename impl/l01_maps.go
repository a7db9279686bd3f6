package impl

import "slices"

const (
	MaxKeys  = 12
	MaxEdits = 6
	MaxValue = 1000000
)

type Entry struct {
	Key   string
	Value int
}

type Edit struct {
	Key   string
	Value int
	Gone  bool
}

type keyed interface {
	key() string
}

func (e Entry) key() string { return e.Key }

func (e Edit) key() string { return e.Key }

// sortedList has its elements in strictly increasing order of their keys.
// Every list that a method returns is new memory, because it may become a
// result, which must not share any with an argument.
type sortedList[T keyed] []T

func (l sortedList[T]) inOrder() bool {
	for i, x := range l {
		if !NameOK(x.key()) || i > 0 && l[i-1].key() >= x.key() {
			return false
		}
	}
	return true
}

// place is where an element with the key is or would be.
func (l sortedList[T]) place(key string) int {
	at := 0
	for at < len(l) && l[at].key() < key {
		at++
	}
	return at
}

func (l sortedList[T]) find(key string) (int, bool) {
	at := l.place(key)
	return at, at < len(l) && l[at].key() == key
}

func (l sortedList[T]) part(from, to int) sortedList[T] {
	out := make(sortedList[T], to-from)
	copy(out, l[from:to])
	return out
}

func (l sortedList[T]) with(x T) sortedList[T] {
	at, found := l.find(x.key())
	rest := at
	if found {
		rest++
	}
	out := make(sortedList[T], at+1+len(l)-rest)
	copy(out, l[:at])
	out[at] = x
	copy(out[at+1:], l[rest:])
	return out
}

func (l sortedList[T]) without(key string) sortedList[T] {
	at, found := l.find(key)
	if !found {
		return l.part(0, len(l))
	}
	out := make(sortedList[T], len(l)-1)
	copy(out, l[:at])
	copy(out[at:], l[at+1:])
	return out
}

func valueOK(v int) bool {
	return v >= -MaxValue && v <= MaxValue
}

func MapOK(m []Entry) bool {
	if len(m) > MaxKeys || !sortedList[Entry](m).inOrder() {
		return false
	}
	for _, e := range m {
		if !valueOK(e.Value) {
			return false
		}
	}
	return true
}

func Get(m []Entry, key string) (int, int) {
	if code := keyedMapCode(m, key); code != OK {
		return 0, code
	}
	at, found := sortedList[Entry](m).find(key)
	if !found {
		return 0, ErrNone
	}
	return m[at].Value, OK
}

func keyedMapCode(m []Entry, key string) int {
	if len(m) > MaxList || len(key) > MaxText {
		return ErrLong
	}
	if !MapOK(m) || !NameOK(key) {
		return ErrBad
	}
	return OK
}

func Put(m []Entry, key string, value int) ([]Entry, int) {
	if code := keyedMapCode(m, key); code != OK {
		return nil, code
	}
	if !valueOK(value) {
		return nil, ErrRange
	}
	out := sortedList[Entry](m).with(Entry{Key: key, Value: value})
	if len(out) > MaxKeys {
		return nil, ErrFull
	}
	return out, OK
}

func Remove(m []Entry, key string) ([]Entry, int) {
	if code := keyedMapCode(m, key); code != OK {
		return nil, code
	}
	list := sortedList[Entry](m)
	if _, found := list.find(key); !found {
		return list.part(0, len(list)), ErrNone
	}
	return list.without(key), OK
}

func EditsOK(list []Edit) bool {
	if len(list) > MaxEdits || !sortedList[Edit](list).inOrder() {
		return false
	}
	for _, e := range list {
		if !valueOK(e.Value) || e.Gone && e.Value != 0 {
			return false
		}
	}
	return true
}

func ApplyEdits(m []Entry, list []Edit) ([]Entry, int) {
	if len(m) > MaxList || len(list) > MaxList {
		return nil, ErrLong
	}
	if !MapOK(m) || !EditsOK(list) {
		return nil, ErrBad
	}
	out := edited(m, list)
	if len(out) > MaxKeys {
		return nil, ErrFull
	}
	return out, OK
}

// edited has no limit of entries: a later edit may make room for an earlier
// one, so only the final number counts.
func edited(m []Entry, list []Edit) []Entry {
	out := sortedList[Entry](m).part(0, len(m))
	for _, e := range list {
		if e.Gone {
			out = out.without(e.Key)
		} else {
			out = out.with(Entry{Key: e.Key, Value: e.Value})
		}
	}
	return out
}

func Scan(m []Entry, from, to string) ([]Entry, int) {
	if len(m) > MaxList || len(from) > MaxText || len(to) > MaxText {
		return nil, ErrLong
	}
	if !MapOK(m) {
		return nil, ErrBad
	}
	list := sortedList[Entry](m)
	first, end := list.place(from), len(list)
	if to != "" {
		// to may precede from, and the range is empty then.
		end = max(first, list.place(to))
	}
	return list.part(first, end), OK
}

func Diff(a, b []Entry) ([]Edit, int) {
	if len(a) > MaxList || len(b) > MaxList {
		return nil, ErrLong
	}
	if !MapOK(a) || !MapOK(b) {
		return nil, ErrBad
	}
	return differences(a, b), OK
}

func differences(a, b []Entry) []Edit {
	var list []Edit
	i, j := 0, 0
	for i < len(a) || j < len(b) {
		switch {
		case j == len(b) || i < len(a) && a[i].Key < b[j].Key:
			list = append(list, Edit{Key: a[i].Key, Gone: true})
			i++
		case i == len(a) || b[j].Key < a[i].Key:
			list = append(list, Edit{Key: b[j].Key, Value: b[j].Value})
			j++
		default:
			if a[i].Value != b[j].Value {
				list = append(list, Edit{Key: b[j].Key, Value: b[j].Value})
			}
			i++
			j++
		}
	}
	return list
}

func SameMap(a, b []Entry) bool {
	return MapOK(a) && MapOK(b) && slices.Equal(a, b)
}
