package tests

import (
	"fmt"
	"math/rand/v2"
	"slices"
	"testing"

	"loop.example/g00737/impl"
)

// viewer has a watch, the state of its reference, what the watch was told and
// what was taken from it.
type viewer struct {
	w     impl.Watch
	r     impl.Ref
	start int
	told  []int
	taken []impl.Event
}

func newViewer(seen int) viewer {
	return viewer{w: watch("main", seen), r: live("main", 1, seen), start: seen}
}

// note tells the watch of the next change; head is 0 for a deletion.
func (v viewer) note(t *testing.T, head int) viewer {
	t.Helper()
	r := impl.Ref{Name: "main", Head: head, Version: v.r.Version + 1, Gone: head == 0}
	return v.noted(t, r)
}

// noted expects that an event is lost only if there is no capacity.
func (v viewer) noted(t *testing.T, r impl.Ref) viewer {
	t.Helper()
	want := append(slices.Clone(v.w.Queue), ev(r.Version, r.Head))
	if len(v.w.Queue) == impl.MaxQueue {
		want = events(lagged(r.Version, r.Head))
	}
	wantWatched(t, fmt.Sprint("NoteRef ", v.w, r), noteRef(v.w, r), watched{w: watch("main", r.Version, want...)})
	v.w, v.r, v.told = watch("main", r.Version, want...), r, append(slices.Clone(v.told), r.Head)
	return v
}

func (v viewer) next(t *testing.T) viewer {
	t.Helper()
	x := nextEvent(v.w)
	if len(v.w.Queue) == 0 {
		wantWatched(t, "NextEvent of none", x, watched{w: v.w, code: impl.ErrNone})
		return v
	}
	wantWatched(t, "NextEvent", x, watched{w: watch("main", v.w.Seen, v.w.Queue[1:]...), list: v.w.Queue[:1]})
	v.w, v.taken = x.w, append(slices.Clone(v.taken), x.list...)
	return v
}

func (v viewer) drain(t *testing.T) viewer {
	t.Helper()
	x := drainWatch(v.w)
	wantWatched(t, "DrainWatch", x, watched{w: watch("main", v.w.Seen), list: v.w.Queue})
	v.w, v.taken = x.w, append(slices.Clone(v.taken), x.list...)
	return v
}

// check expects that the events which were taken and those which are pending
// are the changes in order, without any that an event with Lag reports.
func (v viewer) check(t *testing.T) {
	t.Helper()
	all, last := append(slices.Clone(v.taken), v.w.Queue...), v.start
	if !impl.WatchOK(v.w) || !impl.EventsOK(all) {
		t.Fatal("not valid", v)
	}
	for _, e := range all {
		lost := e.Version - last - 1
		if (lost > 0) != e.Lag || lost%impl.MaxQueue != 0 || e.Head != v.told[e.Version-v.start-1] {
			t.Fatal("not the change of this Version", e, v)
		}
		last = e.Version
	}
	if last != v.r.Version || v.w.Seen != last {
		t.Fatal("the last change is missing", v)
	}
}

// TestPromise7EverySequence executes all sequences of changes and readings,
// also those in which a second event is lost behind a first one.
func TestPromise7EverySequence(t *testing.T) {
	const depth = 9
	ends, lags := 0, 0
	var run func(left int, v viewer)
	run = func(left int, v viewer) {
		v.check(t)
		if left == 0 {
			ends++
			if slices.ContainsFunc(v.w.Queue, func(e impl.Event) bool { return e.Lag }) {
				lags++
			}
			return
		}
		for _, next := range []viewer{v.note(t, left), v.next(t), v.drain(t)} {
			run(left-1, next)
		}
	}
	run(depth, newViewer(0))
	if ends != 3*3*3*3*3*3*3*3*3 || lags == 0 {
		t.Error("sequences", ends, lags)
	}
}

func TestPromise7FifthEvent(t *testing.T) {
	for _, seen := range []int{0, 1, 7, impl.MaxValue - 3*impl.MaxQueue} {
		v := newViewer(seen)
		queue := events()
		for i := range 3 * impl.MaxQueue {
			v = v.note(t, i%3)
			v.check(t)
			e := ev(seen+i+1, i%3)
			if i > 0 && i%impl.MaxQueue == 0 {
				e.Lag, queue = true, nil
			}
			queue = append(queue, e)
			if !sameWatches(v.w, watch("main", e.Version, queue...)) {
				t.Fatal("after", i+1, "events", v.w, queue)
			}
		}
	}
}

// TestPromise7RoomForTheFifth reads something before the fifth event, so that
// none is lost.
func TestPromise7RoomForTheFifth(t *testing.T) {
	v := newViewer(3)
	for head := range impl.MaxQueue {
		v = v.note(t, head)
	}
	full := v.w
	wantWatched(t, "the fifth", noteRef(full, live("main", 9, 8)), watched{w: watch("main", 8, lagged(8, 9))})
	v = v.next(t).note(t, 9)
	if !sameWatches(v.w, watch("main", 8, ev(5, 1), ev(6, 2), ev(7, 3), ev(8, 9))) {
		t.Error("after one was read", v.w)
	}
	x := noteRef(drainWatch(full).w, live("main", 9, 8))
	wantWatched(t, "after all were read", x, watched{w: watch("main", 8, ev(8, 9))})
	for i := range 50 {
		v = v.next(t).note(t, i)
		v.check(t)
	}
	if slices.ContainsFunc(append(v.taken, v.w.Queue...), func(e impl.Event) bool { return e.Lag }) || len(v.taken) != 51 {
		t.Error("a loss with capacity", v.taken)
	}
}

// TestPromise7LagStaysFirst reads an event with Lag and goes on: the watch
// loses nothing again until it is full.
func TestPromise7LagStaysFirst(t *testing.T) {
	v := newViewer(0)
	for head := range impl.MaxQueue + 1 {
		v = v.note(t, head)
	}
	v = v.note(t, 7).note(t, 8).note(t, 9)
	if !sameWatches(v.w, watch("main", 8, lagged(5, 4), ev(6, 7), ev(7, 8), ev(8, 9))) {
		t.Fatal("behind the event with Lag", v.w)
	}
	read := v.next(t).note(t, 10)
	if !sameWatches(read.w, watch("main", 9, ev(6, 7), ev(7, 8), ev(8, 9), ev(9, 10))) {
		t.Error("after the event with Lag was read", read.w)
	}
	// Nobody read of the first loss: the next event with Lag reports both.
	lost := v.note(t, 10)
	lost.check(t)
	if !sameWatches(lost.w, watch("main", 9, lagged(9, 10))) || len(lost.taken) != 0 {
		t.Error("after a second loss", lost.w)
	}
}

func TestPromise7VersionsEnd(t *testing.T) {
	w, code := impl.NewWatch(nil, "main")
	if code != 0 || !sameWatches(w, watch("main", 0)) {
		t.Fatal("NewWatch", w, code)
	}
	wantWatched(t, "the first Version", noteRef(w, live("main", 2, 1)), watched{w: watch("main", 1, ev(1, 2))})
	wantWatched(t, "the second Version", noteRef(w, live("main", 2, 2)), watched{w: w, code: impl.ErrOrder})
	wantWatched(t, "no Version", noteRef(w, live("main", 2, 0)), watched{code: impl.ErrBad})
	last := noteRef(watch("main", impl.MaxValue-1), deleted("main", impl.MaxValue)).w
	if !sameWatches(last, watch("main", impl.MaxValue, ev(impl.MaxValue, 0))) {
		t.Fatal("the last Version", last)
	}
	for _, v := range []int{1, impl.MaxValue - 1, impl.MaxValue} {
		wantWatched(t, "behind the last Version", noteRef(last, live("main", 1, v)), watched{w: last, code: impl.ErrOrder})
		wantWatched(t, "another name", noteRef(last, live("dev", 1, v)), watched{w: last, code: impl.ErrName})
	}
	wantWatched(t, "beyond the last Version", noteRef(last, live("main", 1, impl.MaxValue+1)), watched{code: impl.ErrBad})
}

// TestPromise7History watches a name through changes of references that
// succeed and that fail, from before it exists.
func TestPromise7History(t *testing.T) {
	r := rand.New(rand.NewPCG(7, 6))
	for range 200 {
		list, v := []impl.Ref{live("dev", 1, 1)}, newViewer(0)
		for range 60 {
			x := changedAtRandomRefs(r, list)
			before, after := findRef(list, "main").ref, findRef(x.list, "main").ref
			list = x.list
			if before != after {
				v = v.noted(t, after)
			}
			switch r.IntN(5) {
			case 0, 1:
				v = v.next(t)
			case 2:
				v = v.drain(t)
			}
			v.check(t)
			w, code := impl.NewWatch(list, "main")
			wantWatched(t, "a watch from now on", watched{w: w, code: code}, watched{w: watch("main", v.w.Seen)})
		}
	}
}

func changedAtRandomRefs(r *rand.Rand, list []impl.Ref) refs {
	name := []string{"main", "main", "dev"}[r.IntN(3)]
	version := findRef(list, name).ref.Version - r.IntN(8)/7
	switch head := 1 + r.IntN(impl.MaxCommits); r.IntN(6) {
	case 0:
		return deleteRef(list, name)
	case 1, 2:
		return createRef(list, name, head)
	default:
		return swapRef(list, name, version, head)
	}
}
