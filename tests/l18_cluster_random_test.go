package tests

import (
	"fmt"
	"math/rand/v2"
	"slices"
	"strings"
	"testing"

	"loop.example/g00141/impl"
)

// nodeFor is a right node of an id with nothing left out, some of whose commands are commands.
func nodeFor(r *rand.Rand, id int64) impl.Node {
	for {
		n := randomRightNode(r)
		if n.Id != id || n.Base != 0 || len(n.Log) > 100 && r.IntN(8) > 0 {
			continue
		}
		for i, e := range n.Log {
			if c := randomCmd(r, impl.State{}); e.Kind == impl.EnCommand && slowFormed(c) && r.IntN(3) > 0 {
				n.Log[i].Body = rawCmd(c)
			}
		}
		return n
	}
}

// diskFor has what a node has, or nearly so, or something else.
func diskFor(r *rand.Rand, n impl.Node) impl.Disk {
	vote, log := rawVote(n.Term, n.Vote), rawEntries(n.Log...)
	whole := journalDisk(vote, log)
	switch r.IntN(24) {
	case 0:
		return impl.Disk{}
	case 1:
		return busier(whole, pick(r, 1, 7, 195, 196, 197, 198, 199, 200))
	case 2:
		return journalDisk(vote, log+pick(r, "torn", "\x00", whole.Live[1].Data))
	case 3:
		return journalDisk(vote, log, impl.File{Name: "vote.new", Data: "x"}, impl.File{Name: "log.new", Data: "y"})
	case 4:
		return journalDisk(pick(r, "", "x", vote+vote, vote[:len(vote)-1]), log)
	case 5:
		return journalDisk(rawVote(n.Term+1, n.Vote), log)
	case 6:
		return journalDisk(rawVote(max(n.Term-1, 0), n.Vote), log)
	case 7:
		return journalDisk(rawVote(n.Term, n.Vote+1), log)
	case 8:
		return journalDisk(vote, rawEntries(n.Log[:r.IntN(len(n.Log)+1)]...))
	case 9:
		return journalDisk(vote, log+rawEntries(impl.Entry{Term: max(n.Term, 1), Kind: pick[int64](r, 0, 1, 2, 5), Body: pick(r, "", "x", "v 1 2")}))
	case 10:
		room := 200000 - len(vote) - len(log)
		return journalDisk(vote, log, impl.File{Name: "z", Data: strings.Repeat("z", room-r.IntN(min(room, 40)))})
	case 11:
		return synced(impl.File{Name: "log", Data: log})
	case 12:
		return synced(impl.File{Name: "vote", Data: vote})
	}
	return whole
}

func randomMachine(r *rand.Rand, id int64) impl.Machine {
	m := impl.Machine{Node: nodeFor(r, id), Store: randomStore(r), Up: r.IntN(4) > 0}
	if len(rawEntries(m.Node.Log...)) < 20000 {
		m.Disk = diskFor(r, m.Node)
	}
	if !m.Up {
		m.Node.Role, m.Node.Leader, m.Node.Votes, m.Node.Peers = 0, 0, nil, nil
		m.Node.Commit = pick(r, 0, m.Node.Commit)
	}
	m.Done = pick(r, 0, m.Node.Commit, r.Int64N(m.Node.Commit+1))
	if r.IntN(2) == 0 {
		states := randomHistory(r, 12)
		m.State = states[len(states)-1]
	}
	if r.IntN(10) == 0 {
		m.Store = impl.Store{Quota: 9000, Blobs: manyBlobs(60), Next: 4}
	}
	return m
}

// randomCluster is a right one, of machines that need not have come to what they are.
func randomCluster(r *rand.Rand) impl.Cluster {
	c := impl.Cluster{Net: impl.Net{Next: 1 + r.Int64N(3)}}
	n := 1 + r.Int64N(4)
	for id := int64(1); id <= n; id++ {
		c.Machines = append(c.Machines, randomMachine(r, id))
	}
	for range r.IntN(14) {
		to := 1 + r.Int64N(n+1)
		body := pick(r, "", "x", "\x01\x02")
		if to <= n && r.IntN(12) > 0 {
			body = rawMsg(randomMsg(r, c.Machines[to-1].Node))
		}
		c.Net.Packets = append(c.Net.Packets, impl.Packet{Id: c.Net.Next, From: 1 + r.Int64N(5), To: to, Body: body})
		c.Net.Next += 1 + r.Int64N(2)
	}
	switch r.IntN(20) {
	case 0:
		for len(c.Net.Packets) < 298+r.IntN(3) {
			c.Net.Packets = append(c.Net.Packets, impl.Packet{Id: c.Net.Next, From: 1, To: 1 + r.Int64N(n), Body: "x"})
			c.Net.Next++
		}
	case 1:
		c.Net.Next = impl.MaxNumber - r.Int64N(3)
	case 2:
		c.Leaders = slices.Repeat([]impl.Lead{{Term: 1, Node: 1}}, 1999+r.IntN(2))
	case 3:
		c.Chosen = slices.Repeat([]impl.Entry{{Term: 1}}, 1999+r.IntN(2))
	}
	if len(c.Leaders) == 0 && r.IntN(2) == 0 {
		c.Leaders = []impl.Lead{{Term: r.Int64N(4), Node: r.Int64N(4)}}
	}
	if len(c.Chosen) == 0 {
		c.Chosen = randomLog(r, r.IntN(9), 1)
	}
	return c
}

func randomClusterStep(r *rand.Rand, c impl.Cluster) impl.Step {
	n := int64(len(c.Machines))
	a := impl.Step{Kind: pick[int64](r, 1, 2, 3, 3, 3, 3, 3, 4, 5, 5, 6, 6, 7, 8, 8, 9), At: 1 + r.Int64N(n), Keep: r.IntN(4) == 0}
	if len(c.Net.Packets) > 0 && (a.Kind == impl.StDeliver || a.Kind == impl.StDrop) {
		a.Id = pick(r, c.Net.Packets...).Id
	}
	at := c.Machines[a.At-1]
	switch a.Kind {
	case impl.StCmd:
		a.Cmd = randomCmd(r, at.State)
	case impl.StConf:
		a.Op, a.Id = 1+r.Int64N(3), 1+r.Int64N(6)
	case impl.StPut:
		a.Cmd.Text = pick(r, "", "b1", fmt.Sprint("b", r.IntN(20)), strings.Repeat("x", r.IntN(120)))
	}
	if r.IntN(15) == 0 {
		*pick(r, &a.Kind, &a.At, &a.Id, &a.Op) = pick(r, append(oddNumbers, 0, n, n+1, 10, r.Int64N(12))...)
	}
	return a
}

// checkPlay holds Play against the slow way, and against the promise.
func checkPlay(t *testing.T, what string, c impl.Cluster, a impl.Step) (impl.Cluster, int64) {
	t.Helper()
	got, code := impl.Play(c, a)
	want, wantCode := slowPlay(c, a)
	if code != wantCode || !sameCluster(got, want) {
		t.Fatalf("%s: %+v has the code %d, not %d:\n%s", what, a, code, wantCode, unlikes(c, got, want))
	}
	switch {
	case code == impl.ClCluster:
		if !isZeroCluster(got) {
			t.Fatalf("%s: %+v: not the zero value", what, a)
		}
	case !impl.ClusterOk(got):
		t.Fatalf("%s: %+v leaves a cluster that is not right: %+v", what, a, got)
	case code != impl.ClOk && !sameCluster(got, c):
		t.Fatalf("%s: %+v, code %d, changes something", what, a, code)
	}
	return got, code
}

// unlikes tells where two clusters differ, for a fault.
func unlikes(before, got, want impl.Cluster) string {
	text := ""
	for i := range min(len(got.Machines), len(want.Machines)) {
		if !sameMachine(got.Machines[i], want.Machines[i]) {
			text += fmt.Sprintf("machine %d: %+v,\nnot %+v;\nahead of it %+v\n", i+1, got.Machines[i], want.Machines[i], before.Machines[i])
		}
	}
	if !sameNet(got.Net, want.Net) {
		text += fmt.Sprintf("the net: %+v,\nnot %+v\n", got.Net, want.Net)
	}
	return text + fmt.Sprintf("%d machines, leaders %v, %d chosen; not %d, %v, %d", len(got.Machines), got.Leaders, len(got.Chosen), len(want.Machines), want.Leaders, len(want.Chosen))
}

// whatPlayed are words for what a step has done.
func whatPlayed(c, next impl.Cluster, a impl.Step, code int64) []string {
	words := []string{fmt.Sprint("step ", min(max(a.Kind, 0), 10), " code ", code)}
	if code != impl.ClOk {
		return words
	}
	if len(next.Leaders) > len(c.Leaders) {
		words = append(words, "a leader")
	}
	if len(next.Chosen) > len(c.Chosen) {
		words = append(words, "chosen")
	}
	for i, m := range next.Machines {
		old := c.Machines[i]
		if m.Node.Term != old.Node.Term || m.Node.Vote != old.Node.Vote {
			words = append(words, "a vote saved")
		}
		if m.Done > old.Done && !sameState(m.State, old.State) {
			words = append(words, "a command done")
		}
		for at := range min(len(m.Node.Log), len(old.Node.Log)) {
			if m.Node.Log[at] != old.Node.Log[at] {
				words = append(words, "entries replaced")
				break
			}
		}
		if len(m.Node.Log) > len(old.Node.Log) {
			words = append(words, "entries saved")
		}
	}
	return words
}

func TestClusterAgainstTheSlowWay(t *testing.T) {
	r := rand.New(rand.NewPCG(18, 18))
	seen := map[string]int{}
	for range 2000 {
		c := randomCluster(r)
		if !impl.ClusterOk(c) {
			t.Fatalf("not right: %+v", c)
		}
		for range 6 {
			a := randomClusterStep(r, c)
			next, code := checkPlay(t, "at random", c, a)
			for _, what := range whatPlayed(c, next, a, code) {
				seen[what]++
			}
			if code == impl.ClOk && r.IntN(3) == 0 {
				c = next
			}
		}
	}
	wanted := []string{"a leader", "chosen", "a vote saved", "a command done", "entries replaced", "entries saved", "step 0 code 2", "step 10 code 2"}
	for kind, codes := range [][]int{1: {0, 3, 4, 5}, 2: {0, 3, 4}, 3: {0, 5}, 4: {0, 5}, 5: {0, 3, 4, 5}, 6: {0, 3, 4, 5}, 7: {0, 3, 4}, 8: {0, 3, 4, 5}, 9: {0, 3, 4, 5}} {
		for _, code := range codes {
			wanted = append(wanted, fmt.Sprint("step ", kind, " code ", code))
		}
	}
	for _, what := range wanted {
		if seen[what] == 0 {
			t.Errorf("%s has not come about", what)
		}
	}
}

func TestClusterOkAgainstTheSlowWay(t *testing.T) {
	r := rand.New(rand.NewPCG(81, 18))
	seen := map[bool]int{}
	for range 1500 {
		c := randomCluster(r)
		m := &c.Machines[r.IntN(len(c.Machines))]
		switch r.IntN(8) {
		case 0:
			spoil(r, &m.Node)
		case 1:
			m.Done = pick(r, append(oddNumbers, m.Node.Commit, m.Node.Commit+1)...)
		case 2:
			m.Up = !m.Up
		case 3:
			m.State = aState()
			spoilState(r, &m.State)
		case 4:
			m.Store.Quota = pick[int64](r, -1, 0, 10, 200000, 200001)
		case 5:
			m.Disk.Live = append(m.Disk.Live, impl.File{Name: pick(r, "z", "", "a")})
		case 6:
			c.Net.Next = pick(r, append(oddNumbers, 1, 2, 5)...)
		case 7:
			c.Machines = append(c.Machines, c.Machines[0])
		}
		want := slowClusterOk(c)
		if got := impl.ClusterOk(c); got != want {
			t.Fatalf("%v: %+v", got, c)
		}
		seen[want]++
		if !want {
			checkPlay(t, "not right", c, randomClusterStep(r, c))
		}
	}
	if seen[true] < 200 || seen[false] < 200 {
		t.Error(seen)
	}
}

// checkHistory: whatever was played from a new cluster on, each term has one leader, logs match, what was agreed on is kept, and what each machine has is saved.
func checkHistory(t *testing.T, c impl.Cluster) {
	t.Helper()
	terms := map[int64]int64{}
	for _, l := range c.Leaders {
		if old, there := terms[l.Term]; there && old != l.Node {
			t.Fatalf("two leaders of term %d: %d and %d", l.Term, old, l.Node)
		}
		terms[l.Term] = l.Node
	}
	for _, m := range c.Machines {
		if !slices.Equal(m.Node.Log[:m.Node.Commit], c.Chosen[:m.Node.Commit]) {
			t.Fatalf("machine %d has agreed on something else", m.Node.Id)
		}
		j, ok := impl.Recover(m.Disk)
		if !ok || j.Term != m.Node.Term || j.Vote != m.Node.Vote || !slices.Equal(j.Entries, m.Node.Log) || len(m.Disk.Ops) > 0 {
			t.Fatalf("machine %d has saved something else: %+v", m.Node.Id, j)
		}
		if m.Up && m.Done != m.Node.Commit {
			t.Fatalf("machine %d has done %d of %d", m.Node.Id, m.Done, m.Node.Commit)
		}
		var state impl.State
		for _, e := range c.Chosen[:m.Done] {
			if cmd, ok := impl.ReadCmd(e.Body); ok && e.Kind == impl.EnCommand {
				state, _ = impl.Apply(state, cmd)
			}
		}
		if !sameState(state, m.State) {
			t.Fatalf("machine %d has come to another state", m.Node.Id)
		}
	}
}

// livelyStep is one that mostly does something in a cluster that lives.
func livelyStep(r *rand.Rand, c impl.Cluster) impl.Step {
	if len(c.Net.Packets) > 0 && r.IntN(3) > 0 {
		p := c.Net.Packets[r.IntN(min(len(c.Net.Packets), 4))]
		return impl.Step{Kind: pick[int64](r, 3, 3, 3, 3, 3, 3, 3, 3, 3, 4), Id: p.Id, Keep: r.IntN(8) == 0}
	}
	a := randomClusterStep(r, c)
	for _, m := range c.Machines {
		if m.Up && m.Node.Role == impl.RoLeader && r.IntN(2) == 0 {
			a.At = m.Node.Id
		}
		if !m.Up && r.IntN(3) == 0 {
			return impl.Step{Kind: impl.StUp, At: m.Node.Id}
		}
	}
	if (a.Kind == impl.StStart || a.Kind == impl.StCrash) && r.IntN(2) == 0 {
		a.Kind = impl.StBeat
	}
	return a
}

func TestClustersThatLive(t *testing.T) {
	seen := map[string]int{}
	for seed := range uint64(16) {
		r := rand.New(rand.NewPCG(18, seed))
		n := 1 + r.Int64N(4)
		first, ok := impl.ClusterNew(n, 1+r.Int64N(n), 100)
		if !ok {
			t.Fatal("no cluster")
		}
		c := first
		var list []impl.Step
		codes := int64(0)
		for step := range 300 {
			a := livelyStep(r, c)
			next, code := checkPlay(t, "a cluster that lives", c, a)
			if code == impl.ClOk {
				codes++
			}
			for _, what := range whatPlayed(c, next, a, code) {
				seen[what]++
			}
			c, list = next, append(list, a)
			if step%10 == 0 {
				checkHistory(t, c)
			}
		}
		checkHistory(t, c)
		all, done := impl.PlayAll(first, list)
		if done != codes || !sameCluster(all, c) {
			t.Fatalf("all at once: %d, not %d", done, codes)
		}
		for _, at := range []int{0, 1, r.IntN(300), 299, 300} {
			half, one := impl.PlayAll(first, list[:at])
			whole, two := impl.PlayAll(half, list[at:])
			if one+two != codes || !sameCluster(whole, c) {
				t.Fatalf("in two pieces at %d: %d and %d, not %d", at, one, two, codes)
			}
		}
		seen["agreed on"] += len(c.Chosen)
	}
	for what, least := range map[string]int{"a leader": 20, "agreed on": 150, "a command done": 50, "step 6 code 0": 5, "step 7 code 0": 20, "step 8 code 0": 20, "entries saved": 100} {
		if seen[what] < least {
			t.Errorf("%s: only %d", what, seen[what])
		}
	}
}
