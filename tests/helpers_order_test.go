package tests

import (
	"slices"

	"loop.example/g00737/impl"
)

func replay(b impl.Base, list []impl.Moment) runs {
	next, results, code := impl.Replay(b, list)
	return runs{next, results, code}
}

func opMoments(ops ...impl.Op) []impl.Moment {
	list := []impl.Moment{}
	for _, o := range ops {
		list = append(list, impl.Moment{Op: o})
	}
	return list
}

// ended is a wish that ended, whatever the truth about it is.
type ended struct {
	who    int
	wish   impl.Wish
	op     impl.Op
	result impl.Result
}

func did(who int, o impl.Op, r impl.Result) ended {
	return ended{who, wishScan("main"), o, r}
}

// gaveUp is the end of a commit to a branch.
func gaveUp(who int, name string) ended {
	return ended{who: who, wish: wishCommit(name, set("n", 1)), result: codeOnly(impl.ErrRetries)}
}

func changed(who int, name string) ended {
	return did(who, opCommit(name, 1, set("n", 1)), impl.Result{Commit: 1})
}

// past is a world in which these wishes ended in this order, at every other
// Step, and nothing is left.
func past(b impl.Base, list ...ended) impl.World {
	w := world(b, make([]impl.Client, impl.MaxClients))
	for i, e := range list {
		c := &w.Clients[e.who-1]
		c.Wishes, c.Done = append(c.Wishes, e.wish), c.Done+1
		w.Moments = append(w.Moments, impl.Moment{Client: e.who, Wish: c.Done, Step: 2*i + 2, Op: e.op, Result: e.result})
	}
	return at(w, 2*len(list)+2)
}

func modelOrder(w impl.World) []impl.Op {
	list := []impl.Op{}
	for _, m := range w.Moments {
		if m.Op.Kind != 0 {
			list = append(list, m.Op)
		}
	}
	return list
}

// modelReplay is for a valid repository and valid Ops.
func modelReplay(b impl.Base, list []impl.Moment) runs {
	out := runs{b: b}
	for _, m := range list {
		x := done{b: out.b, r: m.Result}
		if m.Op.Kind != 0 {
			x = modelDo(out.b, m.Op)
		}
		out.b, out.list = x.b, append(out.list, x.r)
	}
	return out
}

func modelLinear(b impl.Base, w impl.World) bool {
	x := modelReplay(b, w.Moments)
	for i, m := range w.Moments {
		withoutOp := m.Result.Code == impl.ErrName || m.Result.Code == impl.ErrRetries
		if !sameResults(x.list[i], m.Result) || m.Op.Kind == 0 && !withoutOp {
			return false
		}
	}
	return sameBases(x.b, w.Base)
}

func modelMoments(w impl.World, who int) []impl.Moment {
	return slices.DeleteFunc(slices.Clone(w.Moments), func(m impl.Moment) bool { return m.Client != who })
}

func modelInOrder(w impl.World) bool {
	for i, c := range w.Clients {
		got, want := []int{}, []int{}
		for _, m := range modelMoments(w, i+1) {
			got = append(got, m.Wish)
		}
		for n := range c.Done {
			want = append(want, n+1)
		}
		if !slices.Equal(got, want) {
			return false
		}
	}
	return true
}

func modelChanges(w impl.World, name string, after, until int) int {
	n := 0
	for _, m := range w.Moments {
		changes := slices.Contains([]int{impl.OpCreate, impl.OpDelete, impl.OpCommit, impl.OpMerge}, m.Op.Kind)
		if changes && m.Op.Name == name && m.Result.Code == impl.OK && after < m.Step && m.Step < until {
			n++
		}
	}
	return n
}

func modelEarned(w impl.World) bool {
	last := map[int]int{}
	for _, m := range w.Moments {
		name := w.Clients[m.Client-1].Wishes[m.Wish-1].Name
		if m.Result.Code == impl.ErrRetries && modelChanges(w, name, last[m.Client], m.Step) < 4 {
			return false
		}
		last[m.Client] = m.Step
	}
	return true
}
