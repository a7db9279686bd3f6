package tests

import (
	"math"
	"slices"

	"loop.example/g00737/impl"
)

// endedAt is a world whose wishes ended at these Steps, after which no step
// was performed.
func endedAt(steps ...int) impl.World {
	list := []ended{}
	for i := range steps {
		list = append(list, did(1+i%impl.MaxClients, opScan("main"), impl.Result{}))
	}
	w := past(startBase(), list...)
	w.Steps = 0
	for i, step := range steps {
		w.Moments[i].Step, w.Steps = step, step
	}
	return w
}

// withCodes is a world whose wishes ended with these Codes, with an operation
// and without one in turn.
func withCodes(codes ...int) impl.World {
	list := []ended{}
	for i, code := range codes {
		o := []impl.Op{opCommit("main", 0), {}, opScan("none")}[i%3]
		list = append(list, did(1+i%impl.MaxClients, o, codeOnly(code)))
	}
	return past(startBase(), list...)
}

func modelTally(w impl.World) impl.Tally {
	x := impl.Tally{Ended: len(w.Moments)}
	for _, m := range w.Moments {
		switch m.Result.Code {
		case 0:
			x.Good++
		case 11:
			x.Conflicts++
		case 18:
			x.Same++
		case 12:
			x.GaveUp++
		default:
			x.Other++
		}
	}
	return x
}

func modelHeads(w impl.World, name string) []int {
	heads := []int{}
	for _, m := range w.Moments {
		switch {
		case m.Result.Code != 0 || m.Op.Name != name:
		case m.Op.Kind == impl.OpDelete:
			heads = append(heads, 0)
		case m.Op.Kind == impl.OpCreate || m.Op.Kind == impl.OpCommit || m.Op.Kind == impl.OpMerge:
			heads = append(heads, m.Result.Commit)
		}
	}
	return heads
}

func modelGap(w impl.World) int {
	gaps, last := []int{0}, 0
	for _, m := range w.Moments {
		gaps, last = append(gaps, m.Step-last), m.Step
	}
	return slices.Max(gaps)
}

// modelNextOf is for a valid client. The rows are its Phases, the columns the
// Kinds of its wish.
func modelNextOf(c impl.Client) string {
	if c.Done == len(c.Wishes) {
		return "done"
	}
	return [3][7]string{
		{1: "source", 2: "act", 3: "look", 4: "source", 5: "act", 6: "act"},
		{1: "act", 3: "look", 4: "look"},
		{3: "swap", 4: "swap"},
	}[c.Phase][c.Wishes[c.Done].Kind]
}

// stepsToEnd is how many steps a client that has not finished needs alone.
func stepsToEnd(b impl.Base, c impl.Client) int {
	for n := 1; ; n++ {
		x := modelStep(b, c)
		if x.m.Wish > 0 {
			return n
		}
		b, c = x.b, x.c
	}
}

// someSteps has the limits, and what is around the least number that is enough.
func someSteps(enough int) []int {
	return []int{math.MinInt, -200, -1, 0, 1, enough - 1, enough, enough + 1, 20, impl.MaxPicks - 1, impl.MaxPicks, impl.MaxPicks + 1, 1 << 32, math.MaxInt}
}

// told is the watch after its branch got these heads.
func told(x impl.Watch, heads ...int) impl.Watch {
	for _, head := range heads {
		x = modelNote(watchCase{w: x}, impl.Ref{Name: x.Name, Head: head, Version: x.Seen + 1, Gone: head == 0}).w
	}
	return x
}
