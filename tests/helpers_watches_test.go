package tests

import (
	"fmt"
	"math"
	"slices"
	"strings"

	"loop.example/g00737/impl"
)

func ev(version, head int) impl.Event { return impl.Event{Version: version, Head: head} }

func lagged(version, head int) impl.Event {
	return impl.Event{Version: version, Head: head, Lag: true}
}

func events(list ...impl.Event) []impl.Event { return list }

func watch(name string, seen int, queue ...impl.Event) impl.Watch {
	return impl.Watch{Name: name, Seen: seen, Queue: queue}
}

// eventsTo returns n events without Lag, the last one with this Version; every
// third one is a deletion.
func eventsTo(seen, n int) []impl.Event {
	list := []impl.Event{}
	for v := seen - n + 1; v <= seen; v++ {
		list = append(list, ev(v, v%3*20))
	}
	return list
}

func firstLagged(list []impl.Event) []impl.Event {
	list = slices.Clone(list)
	list[0].Lag = true
	return list
}

func badVersions() []int {
	return []int{0, -1, impl.MaxValue + 1, math.MaxInt, math.MinInt}
}

func badEventHeads() []int {
	return []int{-1, impl.MaxCommits + 1, math.MaxInt, math.MinInt}
}

type eventsCase struct {
	name string
	list []impl.Event
	bad  bool
}

func eventsCases() []eventsCase {
	list := []eventsCase{
		{name: "nil"},
		{name: "empty", list: events()},
		{name: "first version", list: events(ev(1, 1))},
		{name: "last version", list: events(ev(impl.MaxValue, impl.MaxCommits))},
		{name: "deleted", list: events(ev(5, 0))},
		{name: "first with Lag", list: events(lagged(5, 7))},
		{name: "version 1 with Lag", list: events(lagged(1, 0))},
		{name: "two", list: events(ev(5, 1), ev(6, 1))},
		{name: "two with Lag", list: events(lagged(5, 1), lagged(6, 0))},
		{name: "gap with Lag", list: events(ev(5, 1), lagged(7, 2))},
		{name: "widest gap with Lag", list: events(ev(1, 1), lagged(impl.MaxValue, 2))},
		{name: "gap with Lag between", list: events(ev(1, 1), ev(2, 1), lagged(9, 2), ev(10, 1), lagged(15, 2))},
		{name: "up to MaxValue", list: eventsTo(impl.MaxValue, 3)},
		{name: "more than a queue", list: eventsTo(9, impl.MaxQueue+1)},
		{name: "MaxList", list: eventsTo(impl.MaxList, impl.MaxList)},
		{name: "beyond MaxList", list: eventsTo(impl.MaxList+1, impl.MaxList+1), bad: true},
		{name: "gap", list: events(ev(5, 1), ev(7, 2)), bad: true},
		{name: "gap before Lag", list: events(ev(5, 1), ev(7, 2), lagged(8, 2)), bad: true},
		{name: "gap behind Lag", list: events(lagged(5, 1), ev(7, 2)), bad: true},
		{name: "late gap", list: events(ev(1, 1), ev(2, 1), ev(3, 1), ev(5, 1)), bad: true},
		{name: "twice", list: events(ev(5, 1), ev(5, 1)), bad: true},
		{name: "twice with Lag", list: events(ev(5, 1), lagged(5, 1)), bad: true},
		{name: "both with Lag twice", list: events(lagged(5, 1), lagged(5, 1)), bad: true},
		{name: "backwards", list: events(ev(6, 1), ev(5, 1)), bad: true},
		{name: "backwards with Lag", list: events(ev(6, 1), lagged(5, 1)), bad: true},
		{name: "backwards later", list: events(ev(6, 1), ev(7, 1), lagged(6, 1)), bad: true},
		{name: "back to the start", list: events(ev(impl.MaxValue, 1), lagged(1, 1)), bad: true},
		{name: "beyond MaxValue", list: eventsTo(impl.MaxValue+1, 2), bad: true},
		{name: "up to 1", list: eventsTo(1, 2), bad: true},
		{name: "around the end of int", list: events(lagged(math.MaxInt, 1), lagged(math.MinInt, 1)), bad: true},
	}
	for _, v := range badVersions() {
		list = append(list, eventsCase{fmt.Sprint("version ", v), events(ev(v, 1)), true},
			eventsCase{fmt.Sprint("version with Lag ", v), events(lagged(v, 1)), true},
			eventsCase{fmt.Sprint("later version ", v), events(ev(1, 1), lagged(v, 1)), true})
	}
	for _, head := range badEventHeads() {
		list = append(list, eventsCase{fmt.Sprint("head ", head), events(ev(1, head)), true},
			eventsCase{fmt.Sprint("later head ", head), events(ev(1, 1), lagged(2, head)), true},
			eventsCase{fmt.Sprint("earlier head ", head), events(ev(1, head), ev(2, 1)), true})
	}
	return list
}

type watchCase struct {
	name string
	w    impl.Watch
	bad  bool
}

func watchCases() []watchCase {
	list := []watchCase{
		{name: "no pending event, empty", w: impl.Watch{Name: "main", Seen: 3, Queue: events()}},
		{name: "another name", w: watch("Main", 3)},
		{name: "longest name", w: watch("abcdefghijkl", 3, eventsTo(3, 2)...)},
		{name: "version 1 with Lag", w: watch("main", 1, lagged(1, 1))},
	}
	for _, seen := range []int{0, 1, 2, 3, 4, 5, 9, impl.MaxValue - 2, impl.MaxValue - 1, impl.MaxValue} {
		for n := range min(seen, impl.MaxQueue) + 1 {
			what := fmt.Sprint(n, " up to ", seen)
			list = append(list, watchCase{name: what, w: watch("main", seen, eventsTo(seen, n)...)})
			if n > 0 {
				list = append(list, watchCase{name: what + " with Lag", w: watch("main", seen, firstLagged(eventsTo(seen, n))...)})
			}
		}
	}
	return append(list, badWatches()...)
}

func badWatches() []watchCase {
	list := []watchCase{
		{name: "nothing"},
		{name: "five", w: watch("main", 9, eventsTo(9, impl.MaxQueue+1)...)},
		{name: "five with Lag", w: watch("main", 9, firstLagged(eventsTo(9, impl.MaxQueue+1))...)},
		{name: "MaxList", w: watch("main", impl.MaxList, eventsTo(impl.MaxList, impl.MaxList)...)},
		{name: "beyond MaxList", w: watch("main", impl.MaxList+1, eventsTo(impl.MaxList+1, impl.MaxList+1)...)},
		{name: "Seen of 0 with an event", w: watch("main", 0, ev(1, 1))},
		{name: "Seen of 0 with version 0", w: watch("main", 0, ev(0, 1))},
		{name: "Seen of the first", w: watch("main", 4, ev(4, 1), ev(5, 1))},
		{name: "second with Lag", w: watch("main", 6, ev(5, 1), lagged(6, 1))},
		{name: "both with Lag", w: watch("main", 6, lagged(5, 1), lagged(6, 1))},
		{name: "last with Lag", w: watch("main", 8, ev(5, 1), ev(6, 1), ev(7, 1), lagged(8, 1))},
		{name: "gap with Lag", w: watch("main", 9, ev(5, 1), lagged(9, 1))},
	}
	for _, name := range []string{"", "1", "a b", "abcdefghijklm", strings.Repeat("a", impl.MaxText+1)} {
		list = append(list, watchCase{name: "name " + brief(name), w: watch(name, 1)}, watchCase{name: "full, name " + brief(name), w: watch(name, 9, eventsTo(9, impl.MaxQueue)...)})
	}
	for _, seen := range badVersions()[1:] {
		list = append(list, watchCase{name: fmt.Sprint("seen ", seen), w: watch("main", seen)},
			watchCase{name: fmt.Sprint("seen and pending ", seen), w: watch("main", seen, lagged(seen, 1))})
	}
	for n := 1; n <= impl.MaxQueue; n++ {
		for _, seen := range []int{0, 1, 8, 10, impl.MaxValue} {
			list = append(list, watchCase{name: fmt.Sprint(n, " up to 9, but seen ", seen), w: watch("main", seen, eventsTo(9, n)...)})
		}
	}
	for _, c := range eventsCases() {
		if c.bad {
			list = append(list, watchCase{name: "queue: " + c.name, w: watch("main", c.list[len(c.list)-1].Version, c.list...)})
		}
	}
	for i := range list {
		list[i].bad = true
	}
	return list
}

func validWatches() []watchCase {
	return slices.DeleteFunc(watchCases(), func(c watchCase) bool { return c.bad })
}

// noteRefs has references around what a watch expects next, and invalid ones.
func noteRefs(w impl.Watch) []impl.Ref {
	list := []impl.Ref{}
	for _, name := range []string{w.Name, "other", "mai", "MAIN"} {
		for _, v := range []int{w.Seen - 1, w.Seen, w.Seen + 1, w.Seen + 2, w.Seen + 5, 1, impl.MaxValue} {
			for _, head := range heads() {
				list = append(list, live(name, head, v), impl.Ref{Name: name, Head: head, Version: v, Gone: true})
			}
		}
	}
	for _, r := range badRefs() {
		list = append(list, r, impl.Ref{Name: w.Name, Head: r.Head, Version: r.Version, Gone: r.Gone})
	}
	return list
}

func badRef(r impl.Ref) bool {
	return !impl.NameOK(r.Name) || r.Version < 1 || r.Version > impl.MaxValue || r.Gone && r.Head != 0 || !r.Gone && badHead(r.Head)
}

// watched has the results of a function of a watch; list has the events that
// it returns, or the one event.
type watched struct {
	w    impl.Watch
	list []impl.Event
	code int
}

func noteRef(w impl.Watch, r impl.Ref) watched {
	x, code := impl.NoteRef(w, r)
	return watched{w: x, code: code}
}

// nextEvent has no event in the list if it is zero.
func nextEvent(w impl.Watch) watched {
	x, e, code := impl.NextEvent(w)
	list := events(e)
	if e == (impl.Event{}) {
		list = nil
	}
	return watched{x, list, code}
}

func drainWatch(w impl.Watch) watched {
	x, list, code := impl.DrainWatch(w)
	return watched{x, list, code}
}

func sameWatches(a, b impl.Watch) bool {
	return a.Name == b.Name && a.Seen == b.Seen && slices.Equal(a.Queue, b.Queue)
}

func sameWatched(a, b watched) bool {
	return a.code == b.code && sameWatches(a.w, b.w) && slices.Equal(a.list, b.list)
}

func modelNote(c watchCase, r impl.Ref) watched {
	code := first(c.bad || badRef(r), impl.ErrBad, r.Name != c.w.Name, impl.ErrName, r.Version-1 != c.w.Seen, impl.ErrOrder)
	switch {
	case code == impl.ErrBad:
		return watched{code: code}
	case code != 0:
		return watched{w: c.w, code: code}
	case len(c.w.Queue) == impl.MaxQueue:
		return watched{w: watch(c.w.Name, r.Version, lagged(r.Version, r.Head))}
	}
	queue := append(slices.Clone(c.w.Queue), ev(r.Version, r.Head))
	return watched{w: watch(c.w.Name, r.Version, queue...)}
}

func modelNext(c watchCase) watched {
	switch code := first(c.bad, impl.ErrBad, len(c.w.Queue) == 0, impl.ErrNone); code {
	case impl.ErrBad:
		return watched{code: code}
	case impl.ErrNone:
		return watched{w: c.w, code: code}
	}
	return watched{w: watch(c.w.Name, c.w.Seen, c.w.Queue[1:]...), list: c.w.Queue[:1]}
}

func modelDrain(c watchCase) watched {
	if c.bad {
		return watched{code: impl.ErrBad}
	}
	return watched{w: watch(c.w.Name, c.w.Seen), list: c.w.Queue}
}
