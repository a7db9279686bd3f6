package tests

import (
	"fmt"
	"math/rand/v2"
	"regexp"
	"slices"
	"strings"

	"loop.example/g00737/impl"
)

var (
	oneInteger = regexp.MustCompile(`\A(` + integerShape + `)\z`)
	oneName    = regexp.MustCompile(`\A` + nameShape + `\z`)
)

// heard has the results of executing lines.
type heard struct {
	w    impl.World
	said []string
	code int
}

func runLines(lines ...string) heard {
	w, said, code := impl.RunLines(lines)
	return heard{w, said, code}
}

func (x heard) same(y heard) bool {
	return x.code == y.code && slices.Equal(x.said, y.said) && sameWorlds(x.w, y.w)
}

// script is what a model knows of the lines before.
type script struct {
	w       impl.World
	begun   bool
	wanted  [][]impl.Wish
	watched []string
}

func refusal(code int) []string {
	return []string{"error " + strings.Fields("ok bad long form range none many full size kind name conflict retries stale exists done order lag same")[code]}
}

func modelRunLines(lines []string) heard {
	if code := first(len(lines) > 4096, impl.ErrLong, len(lines) > 80, impl.ErrMany); code != 0 {
		return heard{code: code}
	}
	s, said := script{w: world(base([]impl.Commit{{}}, live("main", 1, 1)), nil)}, []string{}
	for _, t := range lines {
		words := slices.DeleteFunc(strings.Split(t, " "), func(word string) bool { return word == "" })
		if len(words) > 0 && words[0][0] != '#' {
			said = append(said, s.line(words)...)
		}
	}
	s.begin()
	return heard{w: s.w, said: said}
}

func (s *script) begin() {
	if s.begun {
		return
	}
	s.begun = true
	clients := []impl.Client{}
	for _, list := range s.wanted {
		clients = append(clients, impl.Client{Wishes: list})
	}
	s.w = world(s.w.Base, clients, s.watched...)
}

func (s *script) line(words []string) []string {
	rest := strings.Join(words[1:], " ")
	switch words[0] {
	case "do":
		return s.do(modelReadWish(rest))
	case "client", "wish", "watch":
		if s.begun {
			return refusal(impl.ErrDone)
		}
		return s.prepare(words[0], rest)
	case "step":
		s.begin()
		return s.step(words[1:])
	case "events":
		s.begin()
		return s.events(words[1:])
	}
	switch strings.Join(words, " ") {
	case "finish":
		s.begin()
		return append(s.proceed(modelFinish(s.w).w), "end")
	case "base":
		return append(modelLines(s.w.Base), "end")
	case "tally":
		x := modelTally(s.w)
		return []string{fmt.Sprintf("ended %d good %d conflicts %d same %d gaveup %d other %d", x.Ended, x.Good, x.Conflicts, x.Same, x.GaveUp, x.Other)}
	}
	return refusal(impl.ErrForm)
}

// do performs the steps of a client that is alone.
func (s *script) do(x wished) []string {
	if code := first(x.code != 0, impl.ErrForm, s.begun, impl.ErrDone); code != 0 {
		return refusal(code)
	}
	c := at0(x.w)
	for {
		next := modelStep(s.w.Base, c)
		s.w.Base, c = next.b, next.c
		if next.m.Wish > 0 {
			return []string{modelResultText(next.m.Result).t}
		}
	}
}

func (s *script) prepare(word, rest string) []string {
	n := len(s.wanted)
	switch word {
	case "client":
		if code := first(n == 5, impl.ErrFull, rest != "", impl.ErrForm); code != 0 {
			return refusal(code)
		}
		s.wanted = append(s.wanted, nil)
		return []string{fmt.Sprint("client ", n+1)}
	case "wish":
		x := modelReadWish(rest)
		code := first(n == 0, impl.ErrNone, x.code != 0, impl.ErrForm)
		if code == 0 {
			code = first(len(s.wanted[n-1]) == 6, impl.ErrFull)
		}
		if code != 0 {
			return refusal(code)
		}
		s.wanted[n-1] = append(s.wanted[n-1], x.w)
		return []string{"ok"}
	}
	if code := first(!oneName.MatchString(rest), impl.ErrForm, len(s.watched) == 3, impl.ErrFull); code != 0 {
		return refusal(code)
	}
	s.watched = append(s.watched, rest)
	return []string{"ok"}
}

// proceed returns the texts of what ended on the way to a later world.
func (s *script) proceed(later impl.World) []string {
	said := []string{}
	for _, m := range later.Moments[len(s.w.Moments):] {
		said = append(said, modelMomentText(m).t)
	}
	s.w = later
	return said
}

func (s *script) step(words []string) []string {
	picks := []int{}
	for _, word := range words {
		if !oneInteger.MatchString(word) {
			return refusal(impl.ErrForm)
		}
		n := 0
		fmt.Sscan(word, &n)
		picks = append(picks, n)
	}
	if len(picks) < 1 || len(picks) > 200 {
		return refusal(impl.ErrForm)
	}
	x := modelPicks(s.w, picks)
	return append(s.proceed(x.w), fmt.Sprint("skipped ", x.skipped))
}

func (s *script) events(words []string) []string {
	if len(words) != 1 || !oneInteger.MatchString(words[0]) {
		return refusal(impl.ErrForm)
	}
	for i, x := range s.w.Watches {
		if fmt.Sprint(i+1) != words[0] {
			continue
		}
		said := []string{}
		for _, e := range x.Queue {
			said = append(said, fmt.Sprintf("version %d head %d%s", e.Version, e.Head, map[bool]string{true: " lag"}[e.Lag]))
		}
		s.w = cloned(s.w)
		s.w.Watches[i].Queue = nil
		return append(said, "end")
	}
	return refusal(impl.ErrNone)
}

// wishLines has a line for each client and each of its wishes.
func wishLines(wanted [][]impl.Wish) []string {
	lines := []string{}
	for _, list := range wanted {
		lines = append(lines, "client")
		for _, w := range list {
			lines = append(lines, "wish "+wishText(w))
		}
	}
	return lines
}

func watchLines(watched []string) []string {
	lines := []string{}
	for _, name := range watched {
		lines = append(lines, "watch "+name)
	}
	return lines
}

func stepLine(picks []int) string {
	return strings.TrimSpace("step " + strings.Trim(fmt.Sprint(picks), "[]"))
}

// anyLine has the commands of a session in the order in which they make sense,
// if at is from 0 to 1, and others.
func anyLine(r *rand.Rand, at float64) string {
	one := func(list ...string) string { return list[r.IntN(len(list))] }
	wish := func() string {
		list := append(wishKinds(one("main", "dev", "x"), one("main", "dev", "x")), wishCommit(one("main", "main", "dev"), set(one("a", "b", "c", "d", "e"), r.IntN(9))))
		return wishText(list[max(r.IntN(len(list)), r.IntN(2)*6)])
	}
	switch part := at + r.NormFloat64()/8; {
	case r.IntN(12) == 0:
		return one("", "   ", "# step 1", "#", " #client", "x", "do", "do it", "client 1", "wish", "wish x", "watch", "watch 1", "finish 1", "base x", "tally x", "Client", "\tclient")
	case r.IntN(30) == 0:
		return one("step", "step x", "events", "events x", "events 7", "step 1 01")
	case r.IntN(8) == 0:
		return one("base", "tally", "tally")
	case part < 0.2:
		return "do " + wish()
	case part < 0.6:
		return one("client", "wish "+wish(), "wish "+wish(), "wish "+wish(), "wish "+wish(), "watch "+one("main", "dev", "x", "never"))
	case part < 0.95:
		picks := stepLine(randomPicks(r, 1+r.IntN(20), 4))
		return one(picks, picks, picks, fmt.Sprint("events ", 1+r.IntN(3)))
	}
	return one("finish", stepLine(randomPicks(r, 1+r.IntN(100), 5)), fmt.Sprint("events ", 1+r.IntN(3)))
}

func anyScript(r *rand.Rand, n int) []string {
	lines := []string{}
	for i := range n {
		lines = append(lines, anyLine(r, float64(i)/float64(n)))
	}
	return lines
}
