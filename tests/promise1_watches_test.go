package tests

import (
	"fmt"
	"slices"
	"testing"

	"loop.example/g00737/impl"
)

var markEvent = impl.Event{Version: 77, Head: 7, Lag: true}

func guardWatch(w impl.Watch) impl.Watch {
	w.Queue = guard(w.Queue, markEvent)
	return w
}

func watchMemory(w impl.Watch) string { return fmt.Sprint(w, whole(w.Queue)) }

func overEvents(list []impl.Event) func() { return func() { fill(list, lagged(99, 9)) } }

func (x watched) over() { overBoth(overEvents(x.w.Queue), overEvents(x.list))() }

func (w *arguments) addWatches() {
	for _, c := range eventsCases() {
		list := guard(c.list, markEvent)
		w.eventNames = append(w.eventNames, c.name)
		w.events = append(w.events, list)
		w.eventsBefore = append(w.eventsBefore, slices.Clone(whole(list)))
	}
	for _, c := range watchCases() {
		x := guardWatch(c.w)
		w.watchNames = append(w.watchNames, c.name)
		w.watches = append(w.watches, x)
		w.watchesBefore = append(w.watchesBefore, watchMemory(x))
	}
}

func (w *arguments) changedWatch() string {
	for i, list := range w.events {
		if !slices.Equal(whole(list), w.eventsBefore[i]) {
			return "events " + w.eventNames[i]
		}
	}
	for i, x := range w.watches {
		if watchMemory(x) != w.watchesBefore[i] {
			return "watch " + w.watchNames[i]
		}
	}
	return ""
}

func (w *arguments) watchCalls() []call {
	calls := []call{}
	for i, list := range w.events {
		calls = append(calls, call{"EventsOK " + w.eventNames[i], func() (string, func()) {
			return fmt.Sprint(impl.EventsOK(list)), nothing
		}})
	}
	for i, list := range w.refs {
		for _, c := range refNames(list) {
			calls = append(calls, call{"NewWatch " + w.refNames[i] + ", " + brief(c.t), func() (string, func()) {
				x, code := impl.NewWatch(list, c.t)
				return fmt.Sprint(x, code), overEvents(x.Queue)
			}})
		}
	}
	for i, x := range w.watches {
		name := w.watchNames[i]
		calls = append(calls, readCalls(name, x)...)
		for j, other := range w.watches {
			calls = append(calls, call{"SameWatch " + name + ", " + w.watchNames[j], func() (string, func()) {
				return fmt.Sprint(impl.SameWatch(x, other)), nothing
			}})
		}
	}
	return calls
}

func readCalls(name string, w impl.Watch) []call {
	calls := []call{{"WatchOK " + name, func() (string, func()) { return fmt.Sprint(impl.WatchOK(w)), nothing }},
		watchedCall("NextEvent "+name, func() watched { return nextEvent(w) }),
		watchedCall("DrainWatch "+name, func() watched { return drainWatch(w) })}
	for i, r := range noteRefs(w) {
		calls = append(calls, watchedCall(fmt.Sprint("NoteRef ", name, ", ", i), func() watched { return noteRef(w, r) }))
	}
	return calls
}

func watchedCall(name string, run func() watched) call {
	return call{name, func() (string, func()) {
		x := run()
		return fmt.Sprint(x), x.over
	}}
}

// TestPromise1WatchesAreNew has a call for every code beside which a watch is
// returned, unchanged or not.
func TestPromise1WatchesAreNew(t *testing.T) {
	for n := range impl.MaxQueue + 1 {
		w := guardWatch(watch("main", 9, eventsTo(9, n)...))
		before := watchMemory(w)
		calls := map[string]func() watched{
			"NoteRef":                    func() watched { return noteRef(w, live("main", 5, 10)) },
			"NoteRef of another name":    func() watched { return noteRef(w, live("dev", 5, 10)) },
			"NoteRef of another version": func() watched { return noteRef(w, live("main", 5, 11)) },
			"NextEvent":                  func() watched { return nextEvent(w) },
			"DrainWatch":                 func() watched { return drainWatch(w) },
		}
		for name, run := range calls {
			one, two := run(), run()
			text := fmt.Sprint(two)
			if one.over(); fmt.Sprint(two) != text || watchMemory(w) != before {
				t.Error(name, "shares memory", n)
			}
			x := run()
			fill(x.list, ev(98, 8))
			if fill(x.w.Queue, lagged(99, 9)); slices.ContainsFunc(x.list, func(e impl.Event) bool { return e.Version == 99 }) {
				t.Error(name, "shares memory between its results", n)
			}
		}
	}
}

func TestPromise1NilIsEmptyInWatches(t *testing.T) {
	lists := [][]impl.Event{nil, {}, guard(events(), markEvent)}
	for _, none := range lists {
		w := watch("main", 3, none...)
		if !impl.EventsOK(none) || !impl.WatchOK(w) {
			t.Error("an empty queue is not valid")
		}
		for _, empty := range lists {
			if !impl.SameWatch(w, watch("main", 3, empty...)) {
				t.Error("SameWatch tells nil from empty")
			}
		}
		wantWatched(t, "NoteRef", noteRef(w, live("main", 1, 4)), watched{w: watch("main", 4, ev(4, 1))})
		wantWatched(t, "NoteRef of another name", noteRef(w, live("dev", 1, 4)), watched{w: w, code: impl.ErrName})
		wantWatched(t, "NextEvent", nextEvent(w), watched{w: w, code: impl.ErrNone})
		wantWatched(t, "DrainWatch", drainWatch(w), watched{w: w})
	}
	for _, none := range [][]impl.Ref{nil, {}} {
		if w, code := impl.NewWatch(none, "main"); code != 0 || !sameWatches(w, watch("main", 0)) {
			t.Error("NewWatch", w, code)
		}
	}
}

// TestPromise1WatchesOfEarlierCalls keeps the results of earlier calls: each
// one stays as it was, however the later ones go on.
func TestPromise1WatchesOfEarlierCalls(t *testing.T) {
	w := watch("main", 0)
	kept, texts := []watched{}, []string{}
	for i := range 60 {
		noted := noteRef(w, live("main", 1+i%impl.MaxCommits, w.Seen+1))
		for _, x := range []watched{noted, noteRef(w, live("main", 1, w.Seen)), nextEvent(noted.w), drainWatch(noted.w)} {
			kept, texts = append(kept, x), append(texts, fmt.Sprint(x))
		}
		w = noted.w
		if i%7 == 0 {
			w = nextEvent(w).w
		}
	}
	for i, x := range kept {
		if fmt.Sprint(x) != texts[i] {
			t.Fatal("watch", i, "changed later", x, texts[i])
		}
	}
}
