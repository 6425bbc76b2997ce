package tests

import (
	"fmt"
	"math/rand/v2"
	"slices"
	"testing"

	"loop.example/g00141/impl"
)

// checkAuditsAsSlowly holds all audits against the slow way.
func checkAuditsAsSlowly(t *testing.T, what string, c impl.Cluster) [6]bool {
	t.Helper()
	got, want := audits(c), slowAudits(c)
	if got != want || impl.Verdict(c) != slowVerdict(c) {
		t.Fatalf("%s: %v and %d, not %v and %d: %+v", what, got, impl.Verdict(c), want, slowVerdict(c), c)
	}
	return got
}

// spoilAudited changes something of a cluster, mostly such that it stays right.
func spoilAudited(r *rand.Rand, c *impl.Cluster) {
	m := &c.Machines[r.IntN(len(c.Machines))]
	switch r.IntN(9) {
	case 0:
		c.Leaders = append(c.Leaders, impl.Lead{Term: 1 + r.Int64N(3), Node: 1 + r.Int64N(3)}, impl.Lead{Term: 1 + r.Int64N(3), Node: 1})
	case 1:
		if len(m.Node.Log) > 0 {
			e := &m.Node.Log[r.IntN(len(m.Node.Log))]
			*e = pick(r, impl.Entry{Term: e.Term}, impl.Entry{Term: e.Term, Kind: 1, Body: e.Body}, impl.Entry{Term: e.Term, Kind: 1, Body: "x"}, impl.Entry{Term: e.Term + 1, Kind: e.Kind, Body: e.Body})
		}
	case 2:
		if len(c.Chosen) > 0 {
			c.Chosen[r.IntN(len(c.Chosen))] = pick(r, impl.Entry{Term: 1}, impl.Entry{Term: 2, Kind: 1, Body: rawCmd(pinCmd("x"))})
		}
	case 3:
		c.Chosen = c.Chosen[:r.IntN(len(c.Chosen)+1)]
	case 4:
		m.Node.Commit = r.Int64N(int64(len(m.Node.Log)) + 1)
	case 5:
		m.Done = r.Int64N(m.Node.Commit + 1)
	case 6:
		m.State = pick(r, impl.State{}, aState(), c.Machines[0].State)
	case 7:
		m.Disk = pick(r, diskFor(r, m.Node), journalDisk(rawVote(m.Node.Term, m.Node.Vote), rawEntries(m.Node.Log...)))
	case 8:
		m.Node.Term += r.Int64N(3)
	}
}

func TestAuditsAgainstTheSlowWay(t *testing.T) {
	r := rand.New(rand.NewPCG(19, 19))
	seen := map[string]int{}
	count := func(so [6]bool, verdict int64) {
		for i, yes := range so {
			seen[fmt.Sprint("audit ", i+1, " ", yes)]++
		}
		seen[fmt.Sprint("verdict ", verdict)]++
	}
	for range 400 {
		c := randomCluster(r)
		count(checkAuditsAsSlowly(t, "at random", c), impl.Verdict(c))
	}
	for range 60 {
		n := 1 + r.Int64N(5)
		c := newCluster(t, n, 1+r.Int64N(n))
		for range 60 + r.IntN(60) {
			c, _ = impl.Play(c, livelyStep(r, c))
		}
		for range 25 {
			spoiled := copyCluster(c)
			for range r.IntN(4) {
				spoilAudited(r, &spoiled)
			}
			count(checkAuditsAsSlowly(t, "spoiled", spoiled), impl.Verdict(spoiled))
			digest := pick(r, digestOf("b1"), digestOf(fmt.Sprint("b", r.IntN(20))), digestOf(""), "")
			checkHoldersNow(t, "spoiled", spoiled, digest, r.Int64N(9))
		}
	}
	for i := range 8 {
		if what := fmt.Sprint("verdict ", i); seen[what] < 10 {
			t.Errorf("%s: only %d", what, seen[what])
		}
	}
	for i := range 6 {
		for _, so := range []bool{true, false} {
			if what := fmt.Sprint("audit ", i+1, " ", so); seen[what] < 50 {
				t.Errorf("%s: only %d", what, seen[what])
			}
		}
	}
}

// A weather is how a cluster fares while steps are drawn.
type weather struct {
	packets, drops, copies int            // of a hundred steps; of a hundred packets
	late                   int            // among how many packets, from the least Id on, one is drawn
	kinds                  []int64        // of the other steps, each as often as it comes
	apart                  map[int64]bool // those that are cut off from the others for now
}

func randomWeather(r *rand.Rand) *weather {
	w := &weather{packets: 60 + r.IntN(25), drops: pick(r, 0, 2, 10, 25), copies: pick(r, 0, 5, 30), late: pick(r, 1, 3, 12, 300)}
	for _, row := range [][]int64{
		{impl.StStart, pick[int64](r, 2, 4, 8)}, {impl.StBeat, pick[int64](r, 8, 16)}, {impl.StCmd, 12}, {impl.StConf, pick[int64](r, 0, 4, 10)},
		{impl.StCrash, pick[int64](r, 0, 1, 3)}, {impl.StUp, 4}, {impl.StPut, 1},
	} {
		w.kinds = append(w.kinds, slices.Repeat(row[:1], int(row[1]))...)
	}
	return w
}

// turn cuts some machines off, or joins all of them again.
func (w *weather) turn(r *rand.Rand, n int64) {
	w.apart = map[int64]bool{}
	if r.IntN(3) > 0 {
		for id := int64(1); id <= n; id++ {
			w.apart[id] = r.IntN(3) == 0
		}
	}
}

// packetIn draws one of the packets that cross no cut; false where it rather draws none.
func (w *weather) packetIn(r *rand.Rand, c impl.Cluster) (impl.Step, bool) {
	ready := slices.DeleteFunc(slices.Clone(c.Net.Packets), func(p impl.Packet) bool { return w.apart[p.From] != w.apart[p.To] })
	if len(c.Net.Packets) > 250 {
		return impl.Step{Kind: impl.StDrop, Id: c.Net.Packets[0].Id}, true
	}
	if len(ready) == 0 || r.IntN(100) >= w.packets {
		return impl.Step{}, false
	}
	id := ready[r.IntN(min(len(ready), w.late))].Id
	if r.IntN(100) < w.drops {
		return impl.Step{Kind: impl.StDrop, Id: id}, true
	}
	return impl.Step{Kind: impl.StDeliver, Id: id, Keep: r.IntN(100) < w.copies}, true
}

// calls tells whether a machine is one that would rather do such a step.
func (w *weather) calls(m impl.Machine, kind int64) bool {
	switch kind {
	case impl.StStart:
		return m.Up && m.Node.Role != impl.RoLeader && !w.apart[m.Node.Id] && w.apart[m.Node.Leader]
	case impl.StBeat, impl.StCmd, impl.StConf:
		return m.Node.Role == impl.RoLeader
	case impl.StUp:
		return !m.Up
	}
	return false
}

// stepIn draws a step: what a leader may do is mostly asked of a leader, and whoever is down mostly comes up again.
func (w *weather) stepIn(r *rand.Rand, c impl.Cluster) impl.Step {
	n := int64(len(c.Machines))
	if r.IntN(50) == 0 {
		w.turn(r, n)
	}
	if a, drawn := w.packetIn(r, c); drawn {
		return a
	}
	a := impl.Step{Kind: pick(r, w.kinds...), At: 1 + r.Int64N(n)}
	for _, m := range c.Machines {
		if w.calls(m, a.Kind) && r.IntN(3) > 0 {
			a.At = m.Node.Id
		}
	}
	switch a.Kind {
	case impl.StCmd:
		a.Cmd = randomCmd(r, c.Machines[a.At-1].State)
	case impl.StConf:
		a.Op, a.Id = pick[int64](r, 1, 2, 3), 1+r.Int64N(n+1)
	case impl.StPut:
		a.Cmd.Text = fmt.Sprint("b", r.IntN(20))
	}
	return a
}

// whatCameAbout are words for what a step has brought about, beside those of whatPlayed.
func whatCameAbout(c, next impl.Cluster, a impl.Step, code int64) []string {
	words := whatPlayed(c, next, a, code)
	if code != impl.ClOk {
		return words
	}
	if a.Kind == impl.StDeliver && a.Keep {
		words = append(words, "a packet that comes again")
	}
	if len(next.Chosen) > len(c.Chosen) {
		for _, e := range next.Chosen[len(c.Chosen):] {
			words = append(words, fmt.Sprint("chosen of kind ", e.Kind))
		}
	}
	leaders := 0
	for _, m := range next.Machines {
		if m.Node.Role == impl.RoLeader {
			leaders++
		}
	}
	if leaders > 1 {
		words = append(words, "several leaders")
	}
	return words
}

// Promise 19.
func TestAuditsOfWhateverIsPlayed(t *testing.T) {
	seen := map[string]int{}
	for seed := range uint64(70) {
		r := rand.New(rand.NewPCG(1919, seed))
		n := 1 + int64(seed)%7
		c := newCluster(t, n, max(1, n-r.Int64N(3)))
		w := randomWeather(r)
		for step := range 400 {
			a := w.stepIn(r, c)
			next, code := impl.Play(c, a)
			if verdict := impl.Verdict(next); verdict != 0 {
				t.Fatalf("seed %d, step %d, %+v: the verdict %d of %+v", seed, step, a, verdict, next)
			}
			for _, what := range whatCameAbout(c, next, a, code) {
				seen[what]++
			}
			c = next
		}
		if so := slowAudits(c); so != [6]bool{true, true, true, true, true, true} {
			t.Fatalf("seed %d: %v of %+v", seed, so, c)
		}
		checkHistory(t, c)
	}
	for what, least := range map[string]int{"a leader": 150, "several leaders": 100, "a packet that comes again": 500, "entries replaced": 15, "chosen of kind 0": 100, "chosen of kind 1": 500, "chosen of kind 2": 40, "a command done": 400, "step 4 code 0": 300, "step 7 code 0": 200, "step 8 code 0": 200} {
		if seen[what] < least {
			t.Errorf("%s: only %d", what, seen[what])
		}
	}
}

// checkSound: Verdict finds nothing, and neither does the slow way.
func checkSound(t *testing.T, what string, c impl.Cluster) {
	t.Helper()
	if verdict := impl.Verdict(c); verdict != 0 || slowVerdict(c) != 0 {
		t.Fatalf("%s: the verdict %d", what, verdict)
	}
}

// playFar plays steps by PlayAll, as many at once as it takes.
func playFar(t *testing.T, c impl.Cluster, list ...impl.Step) impl.Cluster {
	t.Helper()
	for piece := range slices.Chunk(list, impl.MaxSteps) {
		next, count := impl.PlayAll(c, piece)
		if count < 0 {
			t.Fatal("too many steps, or a cluster that is not right")
		}
		c = next
		checkSound(t, "on the way", c)
	}
	return c
}

func TestAuditsOfFullLogs(t *testing.T) {
	mark := command(1, impl.Cmd{Op: impl.CmMark})
	again := []impl.Step{at(impl.StCrash, 1), at(impl.StUp, 1), at(impl.StStart, 1), mark, at(impl.StBeat, 1)}
	c := playFar(t, newCluster(t, 1, 1), append([]impl.Step{at(impl.StStart, 1)}, slices.Repeat([]impl.Step{mark}, 600)...)...)
	if m := c.Machines[0]; len(m.Node.Log) != 500 || m.Done != 500 || m.State.Epoch != 499 {
		t.Fatalf("%d entries, %d done", len(m.Node.Log), m.Done)
	}
	checkSound(t, "500 entries", c)
	c = playFar(t, c, again...)
	if m := c.Machines[0]; len(m.Node.Log) != 500 || m.Node.Role != impl.RoLeader || m.Done != 0 {
		t.Fatalf("up again: %+v", m.Node)
	}
	checkSound(t, "500 entries, up again", c)

	large := command(1, manifestCmd(image(slices.Repeat([]string{"a"}, 41)...)))
	c = playFar(t, newCluster(t, 2, 1), append([]impl.Step{at(impl.StStart, 1), command(1, pinCmd("a"))}, slices.Repeat([]impl.Step{large}, 90)...)...)
	if next, code := impl.Play(c, large); code != impl.ClRefused || !sameCluster(next, c) {
		t.Fatalf("a disk that is full: code %d", code)
	}
	checkSound(t, "a disk that is full", c)
	c = playFar(t, c, again...)
	if len(c.Leaders) != 2 {
		t.Errorf("%v have led", c.Leaders)
	}
	checkSound(t, "a disk that is full, up again", c)
}
