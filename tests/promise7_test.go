package tests

import (
	"fmt"
	"testing"

	"loop.example/g00737/impl"
)

func wantWatched(t *testing.T, what string, got, want watched) {
	t.Helper()
	if !sameWatched(got, want) {
		t.Fatalf("%s: %v; want %v", what, got, want)
	}
}

func TestPromise7EventsOK(t *testing.T) {
	for _, c := range eventsCases() {
		if impl.EventsOK(c.list) == c.bad {
			t.Error("EventsOK", c.name, !c.bad)
		}
	}
	for _, v := range []int{1, 2, impl.MaxValue - 1, impl.MaxValue} {
		for head := range impl.MaxCommits + 1 {
			if !impl.EventsOK(events(ev(v, head))) || !impl.EventsOK(events(lagged(v, head))) {
				t.Error("EventsOK", v, head)
			}
		}
	}
}

// TestPromise7EveryShortList has all lists of up to four events with small
// Versions, with Lag and without.
func TestPromise7EveryShortList(t *testing.T) {
	valid := 0
	var run func(list []impl.Event, ok bool)
	run = func(list []impl.Event, ok bool) {
		if impl.EventsOK(list) != ok {
			t.Fatal("EventsOK", list, !ok)
		}
		if ok {
			valid++
		}
		if len(list) == 4 {
			return
		}
		for v := range 6 {
			for _, e := range events(ev(v, 1), lagged(v, 1)) {
				good := v > 0
				if len(list) > 0 {
					lost := v - list[len(list)-1].Version - 1
					good = good && (lost == 0 || lost > 0 && e.Lag)
				}
				run(append(events(list...), e), ok && good)
			}
		}
	}
	run(nil, true)
	// One list without events, and for n of them the choices of n Versions
	// from 1 to 5, with the Lag of each one open unless it must be set.
	if want := 1 + 10 + 28 + 50 + 56; valid != want {
		t.Error("valid lists", valid, want)
	}
}

func TestPromise7WatchOK(t *testing.T) {
	for _, c := range watchCases() {
		if impl.WatchOK(c.w) == c.bad {
			t.Error("WatchOK", c.name, !c.bad)
		}
	}
	for _, c := range textCases() {
		if impl.WatchOK(watch(c.t, 0)) != c.isName || impl.WatchOK(watch(c.t, 5, ev(5, 1))) != c.isName {
			t.Error("WatchOK", brief(c.t))
		}
	}
}

func TestPromise7SameWatch(t *testing.T) {
	list := watchCases()
	for _, a := range list {
		for _, b := range list {
			if want := !a.bad && !b.bad && sameWatches(a.w, b.w); impl.SameWatch(a.w, b.w) != want {
				t.Fatal("SameWatch", a.name, ",", b.name, !want)
			}
		}
	}
	full := watch("main", 9, lagged(6, 1), ev(7, 0), ev(8, 3), ev(9, 4))
	if !impl.SameWatch(full, watch("main", 9, lagged(6, 1), ev(7, 0), ev(8, 3), ev(9, 4))) {
		t.Error("SameWatch of equal watches")
	}
	for i, other := range []impl.Watch{
		watch("dev", 9, full.Queue...),
		watch("main", 9),
		watch("main", 9, full.Queue[1:]...),
		watch("main", 8, full.Queue[:3]...),
		watch("main", 9, ev(6, 1), ev(7, 0), ev(8, 3), ev(9, 4)),
		watch("main", 9, lagged(6, 2), ev(7, 0), ev(8, 3), ev(9, 4)),
		watch("main", 9, lagged(6, 1), ev(7, 0), ev(8, 3), ev(9, 0)),
		watch("main", 10, lagged(7, 1), ev(8, 0), ev(9, 3), ev(10, 4)),
	} {
		if !impl.WatchOK(other) || impl.SameWatch(full, other) || impl.SameWatch(other, full) {
			t.Error("SameWatch", i)
		}
	}
	if impl.SameWatch(watch("main", 2), watch("main", 3)) {
		t.Error("SameWatch of another Seen")
	}
}

func TestPromise7NewWatch(t *testing.T) {
	for _, c := range refsCases() {
		for _, name := range refNames(c.list) {
			want := watched{code: first(c.long || name.tooLong, impl.ErrLong, c.bad || !name.isName, impl.ErrBad)}
			if want.code == 0 {
				want.w = watch(name.t, findRef(c.list, name.t).ref.Version)
			}
			w, code := impl.NewWatch(c.list, name.t)
			wantWatched(t, "NewWatch "+c.name+", "+brief(name.t), watched{w: w, code: code}, want)
			if impl.WatchOK(w) != (code == 0) {
				t.Fatal("NewWatch returns an invalid watch", w)
			}
		}
	}
	for name, seen := range map[string]int{"main": 2, "old": 5, "top": impl.MaxValue, "gone_top": impl.MaxValue, "new": 0, "mai": 0} {
		if w, code := impl.NewWatch(someRefs(), name); code != 0 || !sameWatches(w, watch(name, seen)) {
			t.Error("NewWatch", name, w, code)
		}
	}
}

func TestPromise7NoteRef(t *testing.T) {
	three, four := eventsTo(8, 3), eventsTo(9, 4)
	lagging := firstLagged(four)
	for i, v := range []struct {
		w    impl.Watch
		r    impl.Ref
		want watched
	}{
		{watch("main", 0), live("main", 1, 1), watched{w: watch("main", 1, ev(1, 1))}},
		{watch("main", 0), deleted("main", 1), watched{w: watch("main", 1, ev(1, 0))}},
		{watch("main", 8), live("main", impl.MaxCommits, 9), watched{w: watch("main", 9, ev(9, impl.MaxCommits))}},
		{watch("main", 8, lagged(8, 1)), live("main", 2, 9), watched{w: watch("main", 9, lagged(8, 1), ev(9, 2))}},
		{watch("main", 8, three...), deleted("main", 9), watched{w: watch("main", 9, append(three[:3:3], ev(9, 0))...)}},
		{watch("main", 8, firstLagged(three)...), live("main", 5, 9), watched{w: watch("main", 9, append(firstLagged(three), ev(9, 5))...)}},
		{watch("main", 9, four...), live("main", 5, 10), watched{w: watch("main", 10, lagged(10, 5))}},
		{watch("main", 9, four...), deleted("main", 10), watched{w: watch("main", 10, lagged(10, 0))}},
		{watch("main", 9, lagging...), live("main", 5, 10), watched{w: watch("main", 10, lagged(10, 5))}},
		{watch("main", 9, four...), live("dev", 5, 10), watched{w: watch("main", 9, four...), code: impl.ErrName}},
		{watch("main", 9, lagging...), live("main", 5, 11), watched{w: watch("main", 9, lagging...), code: impl.ErrOrder}},
		{watch("main", 9, four...), live("main", 5, 9), watched{w: watch("main", 9, four...), code: impl.ErrOrder}},
		{watch("main", 9), deleted("main", 8), watched{w: watch("main", 9), code: impl.ErrOrder}},
		{watch("main", 9), deleted("dev", 8), watched{w: watch("main", 9), code: impl.ErrName}},
		{watch("main", 9), deleted("dev", 0), watched{code: impl.ErrBad}},
		{watch("main", 9), live("dev", 0, 10), watched{code: impl.ErrBad}},
		{watch("main", 9), live("main", 0, 11), watched{code: impl.ErrBad}},
		{watch("", 9), live("", 1, 10), watched{code: impl.ErrBad}},
		{watch("main", 9, eventsTo(9, 5)...), live("main", 1, 10), watched{code: impl.ErrBad}},
		{watch("main", 9, eventsTo(9, 5)...), live("dev", 1, 10), watched{code: impl.ErrBad}},
		{watch("main", 9, eventsTo(9, 5)...), live("main", 1, 12), watched{code: impl.ErrBad}},
	} {
		wantWatched(t, fmt.Sprint("NoteRef ", i), noteRef(v.w, v.r), v.want)
	}
}

// TestPromise7EveryNote compares with a model: every watch with every
// reference, so that each code meets those that come after it.
func TestPromise7EveryNote(t *testing.T) {
	counts := map[int]int{}
	for _, c := range watchCases() {
		for _, r := range noteRefs(c.w) {
			x := noteRef(c.w, r)
			if !sameWatched(x, modelNote(c, r)) {
				t.Fatal("NoteRef", c.name, brief(r.Name), r.Head, r.Version, r.Gone, x)
			}
			if impl.WatchOK(x.w) != (x.code != impl.ErrBad) {
				t.Fatal("NoteRef returns an invalid watch", c.name, x)
			}
			counts[x.code]++
		}
	}
	for _, code := range []int{impl.OK, impl.ErrBad, impl.ErrName, impl.ErrOrder} {
		if counts[code] == 0 {
			t.Error("code", code, "is not tested")
		}
		delete(counts, code)
	}
	if len(counts) > 0 {
		t.Error("other codes", counts)
	}
}

func TestPromise7NextEvent(t *testing.T) {
	for _, c := range watchCases() {
		x := nextEvent(c.w)
		wantWatched(t, "NextEvent "+c.name, x, modelNext(c))
		if impl.WatchOK(x.w) == c.bad {
			t.Fatal("NextEvent returns an invalid watch", c.name, x)
		}
	}
	four := watch("main", 9, lagged(6, 1), ev(7, 0), ev(8, 3), ev(9, 4))
	wantWatched(t, "the first", nextEvent(four), watched{w: watch("main", 9, ev(7, 0), ev(8, 3), ev(9, 4)), list: events(lagged(6, 1))})
	wantWatched(t, "the last", nextEvent(watch("main", 9, ev(9, 0))), watched{w: watch("main", 9), list: events(ev(9, 0))})
	wantWatched(t, "none", nextEvent(watch("main", 9)), watched{w: watch("main", 9), code: impl.ErrNone})
}

func TestPromise7DrainWatch(t *testing.T) {
	for _, c := range watchCases() {
		x := drainWatch(c.w)
		wantWatched(t, "DrainWatch "+c.name, x, modelDrain(c))
		if impl.WatchOK(x.w) == c.bad || !impl.EventsOK(x.list) {
			t.Fatal("DrainWatch returns an invalid watch or invalid events", c.name, x)
		}
	}
	four := watch("main", 9, lagged(6, 1), ev(7, 0), ev(8, 3), ev(9, 4))
	wantWatched(t, "all", drainWatch(four), watched{w: watch("main", 9), list: four.Queue})
	wantWatched(t, "none", drainWatch(watch("main", 9)), watched{w: watch("main", 9)})
}

// TestPromise7OneByOne takes the events of every watch singly, which are those
// that it has at once.
func TestPromise7OneByOne(t *testing.T) {
	for _, c := range validWatches() {
		got, w := events(), c.w
		for x := nextEvent(w); x.code == 0; x = nextEvent(w) {
			if len(x.list) != 1 || x.w.Seen != c.w.Seen || len(x.w.Queue) != len(w.Queue)-1 {
				t.Fatal("NextEvent", c.name, x)
			}
			got, w = append(got, x.list...), x.w
		}
		wantWatched(t, c.name, drainWatch(c.w), watched{w: w, list: got})
	}
}

func TestPromise7Limits(t *testing.T) {
	if impl.MaxQueue != 4 {
		t.Error("limit", impl.MaxQueue)
	}
}
