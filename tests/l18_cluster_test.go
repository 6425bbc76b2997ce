package tests

import (
	"fmt"
	"math"
	"slices"
	"strings"
	"sync"
	"testing"

	"loop.example/g00141/impl"
)

func newCluster(t *testing.T, n, voters int64) impl.Cluster {
	t.Helper()
	c, ok := impl.ClusterNew(n, voters, 100)
	if !ok {
		t.Fatal("no cluster")
	}
	return c
}

// play plays steps that all have to have ClOk, each held against the slow way.
func play(t *testing.T, c impl.Cluster, steps ...impl.Step) impl.Cluster {
	t.Helper()
	for _, a := range steps {
		next, code := checkPlay(t, "played", c, a)
		if code != impl.ClOk {
			t.Fatalf("%+v: code %d", a, code)
		}
		c = next
	}
	return c
}

func at(kind, id int64) impl.Step { return impl.Step{Kind: kind, At: id} }

func deliver(id int64) impl.Step { return impl.Step{Kind: impl.StDeliver, Id: id} }

func command(id int64, c impl.Cmd) impl.Step { return impl.Step{Kind: impl.StCmd, At: id, Cmd: c} }

// deliverAll delivers the packet with the least Id until there is none.
func deliverAll(t *testing.T, c impl.Cluster) impl.Cluster {
	t.Helper()
	for range 400 {
		if len(c.Net.Packets) == 0 {
			return c
		}
		c = play(t, c, deliver(c.Net.Packets[0].Id))
	}
	t.Fatal("they do not end")
	return c
}

// ledCluster is one of n machines and voters whose first machine leads, with nothing under way.
func ledCluster(t *testing.T, n, voters int64) impl.Cluster {
	t.Helper()
	return deliverAll(t, play(t, deliverAll(t, play(t, newCluster(t, n, voters), at(impl.StStart, 1))), at(impl.StBeat, 1)))
}

// clusterWith is a cluster with something changed.
func clusterWith(c impl.Cluster, changes ...func(*impl.Cluster)) impl.Cluster {
	c = copyCluster(c)
	for _, change := range changes {
		change(&c)
	}
	return c
}

// machine changes one machine of a cluster.
func machine(id int64, change func(*impl.Machine)) func(*impl.Cluster) {
	return func(c *impl.Cluster) { change(&c.Machines[id-1]) }
}

// under is a net with these messages under way, with the Ids 1, 2, ..
func under(msgs ...impl.Msg) func(*impl.Cluster) {
	return func(c *impl.Cluster) {
		c.Net = impl.Net{Next: 1}
		for _, m := range msgs {
			c.Net.Packets = append(c.Net.Packets, impl.Packet{Id: c.Net.Next, From: m.From, To: m.To, Body: rawMsg(m)})
			c.Net.Next++
		}
	}
}

// checkPlayed: a step has a code, and, when that is not ClOk, leaves the cluster as it was.
func checkPlayed(t *testing.T, what string, c impl.Cluster, a impl.Step, want int64) impl.Cluster {
	t.Helper()
	got, code := checkPlay(t, what, c, a)
	if code != want {
		t.Errorf("%s: code %d, not %d", what, code, want)
	}
	return got
}

// checkSent asks for just these messages behind the packets that were there.
func checkSent(t *testing.T, what string, before, after impl.Net, msgs ...impl.Msg) {
	t.Helper()
	want := copyNet(before)
	for _, m := range msgs {
		want.Packets = append(want.Packets, impl.Packet{Id: want.Next, From: m.From, To: m.To, Body: rawMsg(m)})
		want.Next++
	}
	if !sameNet(after, want) {
		t.Errorf("%s: the net %+v, not %+v", what, after, want)
	}
}

// checkSaved asks for a disk with just this journal, synced.
func checkSaved(t *testing.T, what string, d impl.Disk, term, vote int64, entries ...impl.Entry) {
	t.Helper()
	files := []impl.File{{Name: "log", Data: rawEntries(entries...)}, {Name: "vote", Data: rawVote(term, vote)}}
	if len(entries) == 0 {
		files = files[1:]
	}
	checkFiles(t, what, d, files...)
}

func TestClusterNew(t *testing.T) {
	for n := int64(-1); n <= 9; n++ {
		for voters := int64(-1); voters <= 9; voters++ {
			for quota, room := range map[int64]bool{math.MinInt64: false, -1: false, 0: true, 1: true, 199999: true, 200000: true, 200001: false, math.MaxInt64: false} {
				c, ok := impl.ClusterNew(n, voters, quota)
				right := n >= 1 && n <= 7 && voters >= 1 && voters <= n && room
				if ok != right || impl.ClusterOk(c) != right || !right && !isZeroCluster(c) {
					t.Fatalf("%d machines, %d voters, a quota of %d: %v, %+v", n, voters, quota, ok, c)
				}
				if !right {
					continue
				}
				want := impl.Cluster{Net: impl.Net{Next: 1}}
				for id := int64(1); id <= n; id++ {
					want.Machines = append(want.Machines, impl.Machine{Node: impl.Node{Id: id, BaseConf: impl.Conf{Voters: countUp(1, voters)}}, Store: impl.Store{Quota: quota, Next: 1}, Up: true})
				}
				if !sameCluster(c, want) || !slowClusterOk(c) {
					t.Fatalf("%d machines, %d voters: %+v", n, voters, c)
				}
			}
		}
	}
	for _, number := range []int64{math.MinInt64, math.MaxInt64, 1 << 32, 1<<32 + 1} {
		if c, ok := impl.ClusterNew(number, 1, 1); ok || !isZeroCluster(c) {
			t.Error(number, c)
		}
		if c, ok := impl.ClusterNew(3, number, 1); ok || !isZeroCluster(c) {
			t.Error(number, c)
		}
	}
}

func checkClusterOk(t *testing.T, what string, c impl.Cluster, want bool) {
	t.Helper()
	if got := impl.ClusterOk(c); got != want || slowClusterOk(c) != want {
		t.Errorf("%s: %v, slowly %v", what, got, slowClusterOk(c))
	}
	if want {
		return
	}
	for _, a := range []impl.Step{at(impl.StBeat, 1), {}, at(impl.StUp, 9), deliver(7)} {
		if got, code := impl.Play(c, a); code != impl.ClCluster || !isZeroCluster(got) {
			t.Errorf("%s: %+v has the code %d, %+v", what, a, code, got)
		}
	}
	for n := range 2 {
		if got, count := impl.PlayAll(c, make([]impl.Step, n)); count != -1 || !isZeroCluster(got) {
			t.Errorf("%s: PlayAll %d, %+v", what, count, got)
		}
	}
}

func TestClusterOkAtEachCondition(t *testing.T) {
	led := ledCluster(t, 3, 3)
	checkClusterOk(t, "a new one", newCluster(t, 3, 2), true)
	checkClusterOk(t, "one that is led", led, true)
	checkClusterOk(t, "nothing", impl.Cluster{}, false)
	checkClusterOk(t, "no machines", clusterWith(led, func(c *impl.Cluster) { c.Machines = nil }), false)
	seven := newCluster(t, 7, 7)
	checkClusterOk(t, "seven", seven, true)
	checkClusterOk(t, "eight", clusterWith(seven, func(c *impl.Cluster) {
		c.Machines = append(c.Machines, impl.Machine{Node: impl.Node{Id: 8, BaseConf: voters(1)}, Store: impl.Store{Next: 1}, Up: true})
	}), false)
	for id := int64(1); id <= 3; id++ {
		at := func(what string, want bool, change func(*impl.Machine)) {
			t.Helper()
			checkClusterOk(t, fmt.Sprint(what, " of machine ", id), clusterWith(led, machine(id, change)), want)
		}
		commit := led.Machines[id-1].Node.Commit
		for number, want := range map[int64]bool{math.MinInt64: false, -1: false, 0: true, commit: true, commit + 1: false, math.MaxInt64: false} {
			at(fmt.Sprint("Done ", number), want, func(m *impl.Machine) { m.Done = number })
		}
		for number := int64(0); number <= 4; number++ {
			at(fmt.Sprint("the Id ", number), number == id, func(m *impl.Machine) {
				m.Node = impl.Node{Id: number, BaseConf: voters(1, 2, 3)}
				m.Done = 0
			})
		}
		young := impl.Node{Id: id, BaseConf: voters(1, 2, 3), BaseState: "state", BaseTerm: 1, Term: 1}
		at("a Base of 0", true, func(m *impl.Machine) { m.Node, m.Done = young, 0 })
		at("a Base of 1", false, func(m *impl.Machine) { m.Node, m.Done, m.Node.Base, m.Node.Commit = young, 0, 1, 1 })
		at("a learner", true, func(m *impl.Machine) { m.Node, m.Done = young, 0; m.Node.BaseConf = confOf([]int64{9}, []int64{id}) })
		at("a stranger", true, func(m *impl.Machine) { m.Node, m.Done = young, 0; m.Node.BaseConf = voters(49, 50) })
		at("no machine", false, func(m *impl.Machine) { *m = impl.Machine{} })
		at("a State that is empty", true, func(m *impl.Machine) { m.State = impl.State{} })
		follower := with(young, func(n *impl.Node) { n.Leader = 9 })
		candidate := with(young, func(n *impl.Node) { n.Role, n.Vote = impl.RoCandidate, id })
		leader := with(young, func(n *impl.Node) { n.Role, n.Vote, n.Leader, n.BaseConf = impl.RoLeader, id, id, voters(id) })
		for _, up := range []bool{true, false} {
			at(fmt.Sprint("Up ", up, ", a follower that knows none"), true, func(m *impl.Machine) { m.Up, m.Node, m.Done = up, young, 0 })
			at(fmt.Sprint("Up ", up, ", a follower that knows one"), up, func(m *impl.Machine) { m.Up, m.Node, m.Done = up, follower, 0 })
			at(fmt.Sprint("Up ", up, ", a candidate"), up, func(m *impl.Machine) { m.Up, m.Node, m.Done = up, candidate, 0 })
			at(fmt.Sprint("Up ", up, ", a candidate that knows one"), up, func(m *impl.Machine) { m.Up, m.Node, m.Done = up, candidate, 0; m.Node.Leader = 9 })
			at(fmt.Sprint("Up ", up, ", a leader"), up, func(m *impl.Machine) { m.Up, m.Node, m.Done = up, leader, 0 })
			at(fmt.Sprint("Up ", up, ", with entries agreed on and done"), true, func(m *impl.Machine) {
				m.Up, m.Node, m.Done = up, with(young, func(n *impl.Node) { n.Log, n.Commit = logOf(1, 1), 2 }), 1
			})
		}
		for what, n := range wrongNodes() {
			at("the node: "+what, false, func(m *impl.Machine) { m.Node, m.Done = n, 0 })
		}
		for i, d := range brokenDisks(t) {
			at(fmt.Sprint("the disk ", i), false, func(m *impl.Machine) { m.Disk = d })
		}
		at("a disk with other files", true, func(m *impl.Machine) { m.Disk = appends(200) })
		at("a disk without a vote", true, func(m *impl.Machine) { m.Disk = journalDisk("", "x") })
		for what, s := range wrongStores() {
			at("the store: "+what, false, func(m *impl.Machine) { m.Store = s })
		}
		for what, s := range wrongStates() {
			at("the state: "+what, false, func(m *impl.Machine) { m.State = s })
		}
		for what, s := range rightStates() {
			at("the state: "+what, true, func(m *impl.Machine) { m.State = s })
		}
	}
	for what, n := range wrongNets() {
		checkClusterOk(t, "the net: "+what, clusterWith(led, func(c *impl.Cluster) { c.Net = n }), false)
	}
	checkClusterOk(t, "a full net", clusterWith(led, func(c *impl.Cluster) { c.Net = impl.Net{Next: impl.MaxNumber, Packets: manyPackets(300)} }), true)
	for n, want := range map[int]bool{0: true, 1999: true, 2000: true, 2001: false, 4000: false} {
		checkClusterOk(t, fmt.Sprint(n, " leaders"), clusterWith(led, func(c *impl.Cluster) { c.Leaders = make([]impl.Lead, n) }), want)
		checkClusterOk(t, fmt.Sprint(n, " chosen"), clusterWith(led, func(c *impl.Cluster) { c.Chosen = make([]impl.Entry, n) }), want)
	}
	checkClusterOk(t, "odd leaders and chosen", clusterWith(led, func(c *impl.Cluster) {
		c.Leaders, c.Chosen = []impl.Lead{{Term: math.MinInt64, Node: 99}}, []impl.Entry{{Kind: 77, Body: strings.Repeat("x", 9000)}}
	}), true)
}

func TestClusterStart(t *testing.T) {
	c := newCluster(t, 4, 3)
	next := play(t, c, at(impl.StStart, 2))
	vote := impl.Msg{Kind: impl.MsVote, From: 2, Term: 1}
	one, three := vote, vote
	one.To, three.To = 1, 3
	checkSent(t, "a candidate", c.Net, next.Net, one, three)
	checkSaved(t, "a candidate", next.Machines[1].Disk, 1, 2)
	if len(next.Leaders) != 0 || len(next.Chosen) != 0 || next.Machines[1].Node.Role != impl.RoCandidate {
		t.Errorf("a candidate: %+v", next)
	}
	for _, id := range []int64{1, 3, 4} {
		if !sameMachine(next.Machines[id-1], c.Machines[id-1]) {
			t.Errorf("machine %d is changed", id)
		}
	}
	if same := play(t, c, at(impl.StStart, 4)); !sameCluster(same, c) {
		t.Error("one that is no voter starts")
	}
	again := play(t, next, at(impl.StStart, 2))
	checkSaved(t, "a candidate once more", again.Machines[1].Disk, 2, 2)

	alone := newCluster(t, 2, 1)
	led := play(t, alone, at(impl.StStart, 1))
	entry := impl.Entry{Term: 1}
	checkSaved(t, "alone", led.Machines[0].Disk, 1, 1, entry)
	if !slices.Equal(led.Leaders, []impl.Lead{{Term: 1, Node: 1}}) || !slices.Equal(led.Chosen, []impl.Entry{entry}) || led.Machines[0].Done != 1 || !sameNet(led.Net, alone.Net) {
		t.Errorf("alone: %+v", led)
	}
	if same := play(t, led, at(impl.StStart, 1)); !sameCluster(same, led) {
		t.Error("a leader starts")
	}
	last := clusterWith(alone, machine(1, func(m *impl.Machine) { m.Node.Term = impl.MaxNumber }))
	if same := play(t, last, at(impl.StStart, 1)); !sameCluster(same, last) {
		t.Error("one starts behind the last term")
	}
}

func TestClusterBeat(t *testing.T) {
	c := ledCluster(t, 4, 3)
	next := play(t, c, at(impl.StBeat, 1))
	beat := impl.Msg{Kind: impl.MsAppend, From: 1, Term: 1, Index: 1, LogTerm: 1, Commit: 1}
	two, three := beat, beat
	two.To, three.To = 2, 3
	checkSent(t, "a beat", c.Net, next.Net, two, three)
	next.Net = c.Net
	if !sameCluster(next, c) {
		t.Error("a beat changes something else")
	}
	for _, id := range []int64{2, 3, 4} {
		if same := play(t, c, at(impl.StBeat, id)); !sameCluster(same, c) {
			t.Errorf("%d beats", id)
		}
	}
	candidate := play(t, newCluster(t, 3, 3), at(impl.StStart, 3))
	if same := play(t, candidate, at(impl.StBeat, 3)); !sameCluster(same, candidate) {
		t.Error("a candidate beats")
	}
}

func TestClusterElection(t *testing.T) {
	c := play(t, newCluster(t, 3, 3), at(impl.StStart, 1), deliver(1))
	checkSaved(t, "who voted", c.Machines[1].Disk, 1, 1)
	if len(c.Net.Packets) != 2 || c.Net.Packets[1].From != 2 || c.Net.Packets[1].To != 1 || len(c.Leaders) != 0 {
		t.Fatalf("%+v", c.Net)
	}
	c = play(t, c, deliver(3))
	if !slices.Equal(c.Leaders, []impl.Lead{{Term: 1, Node: 1}}) || len(c.Chosen) != 0 || c.Machines[0].Done != 0 {
		t.Fatalf("%+v", c)
	}
	checkSaved(t, "the leader", c.Machines[0].Disk, 1, 1, impl.Entry{Term: 1})
	c = play(t, c, deliver(2), deliver(4)) // the late vote, and the first entry at 2
	checkSaved(t, "who follows", c.Machines[1].Disk, 1, 1, impl.Entry{Term: 1})
	if c.Machines[1].Node.Commit != 0 || len(c.Chosen) != 0 {
		t.Fatalf("%+v", c.Machines[1])
	}
	c = deliverAll(t, c)
	if !slices.Equal(c.Chosen, []impl.Entry{{Term: 1}}) || c.Machines[0].Done != 1 || c.Machines[1].Done != 0 {
		t.Errorf("%+v", c)
	}
	c = play(t, c, at(impl.StStart, 2))
	c = deliverAll(t, c)
	if len(c.Leaders) != 2 || c.Leaders[1] != (impl.Lead{Term: 2, Node: 2}) || c.Machines[0].Node.Role != impl.RoFollower {
		t.Errorf("%+v", c.Leaders)
	}
	checkHistory(t, c)
}

func TestClusterCommands(t *testing.T) {
	c := ledCluster(t, 3, 3)
	image := image("a", "b")
	list := []impl.Cmd{pinCmd("a"), pinCmd("b"), manifestCmd(image), tagCmd("app", "v1", image), untagCmd("app", "none"), of(4, 1, impl.Cmd{Op: impl.CmMark}), of(4, 1, impl.Cmd{Op: impl.CmMark}), of(4, 0, impl.Cmd{Op: impl.CmMark})}
	var want impl.State
	for i, cmd := range list {
		before := c
		c = play(t, c, command(1, cmd))
		if entry := (impl.Entry{Term: 1, Kind: impl.EnCommand, Body: rawCmd(cmd)}); c.Machines[0].Node.Log[i+1] != entry || !sameNet(c.Net, before.Net) {
			t.Fatalf("%+v: %+v", cmd, c.Machines[0].Node.Log)
		}
		checkSaved(t, "the leader", c.Machines[0].Disk, 1, 1, c.Machines[0].Node.Log...)
		if c.Machines[0].Done != int64(i+1) || len(c.Chosen) != i+1 || !sameState(c.Machines[0].State, want) {
			t.Fatalf("%+v is done ahead of being agreed on", cmd)
		}
		c = play(t, c, at(impl.StBeat, 1))
		c = deliverAll(t, c)
		want, _ = slowApply(want, cmd)
		if m := c.Machines[0]; m.Done != int64(i+2) || !sameState(m.State, want) || len(c.Chosen) != i+2 || c.Chosen[i+1].Body != rawCmd(cmd) {
			t.Fatalf("%+v: %+v", cmd, m)
		}
		checkHistory(t, c)
	}
	if want.Epoch != 1 || len(want.Tags) != 1 || len(want.Sessions) != 1 {
		t.Errorf("%+v", want)
	}
	c = deliverAll(t, play(t, c, at(impl.StBeat, 1)))
	for _, m := range c.Machines {
		if !sameState(m.State, want) || m.Done != 9 {
			t.Errorf("machine %d: %+v, done %d", m.Node.Id, m.State, m.Done)
		}
	}
	// The eleventh entry at once, as many as a message takes, and each once.
	for range 10 {
		c = play(t, c, command(1, impl.Cmd{Op: impl.CmMark}))
	}
	c = deliverAll(t, play(t, deliverAll(t, play(t, deliverAll(t, play(t, c, at(impl.StBeat, 1))), at(impl.StBeat, 1))), at(impl.StBeat, 1)))
	for _, m := range c.Machines {
		if m.State.Epoch != 11 || m.Done != 19 || len(c.Chosen) != 19 {
			t.Errorf("machine %d: epoch %d, done %d", m.Node.Id, m.State.Epoch, m.Done)
		}
	}
}

func TestClusterCommandsThatAreRefused(t *testing.T) {
	c := ledCluster(t, 3, 3)
	mark := impl.Cmd{Op: impl.CmMark}
	checkPlayed(t, "a follower", c, command(2, mark), impl.ClRefused)
	checkPlayed(t, "a candidate", play(t, newCluster(t, 3, 3), at(impl.StStart, 1)), command(1, mark), impl.ClRefused)
	for what, cmd := range wrongCmds() {
		if got, code := impl.Play(c, command(1, cmd)); code != impl.ClRefused || !sameCluster(got, c) {
			t.Errorf("%s: code %d", what, code)
		}
	}
	for what, cmd := range formedCmds() {
		next := checkPlayed(t, what, c, command(1, cmd), impl.ClOk)
		if log := next.Machines[0].Node.Log; len(log) != 2 || log[1].Body != rawCmd(cmd) {
			t.Errorf("%s: %+v", what, log)
		}
	}
	full := clusterWith(newCluster(t, 1, 1), machine(1, func(m *impl.Machine) {
		m.Node = with(leaderAlone(), func(n *impl.Node) { n.Log, n.Commit = longLog(500, 2), 500 })
		m.Done, m.Disk = 500, journalDisk(rawVote(2, 1), rawEntries(m.Node.Log...))
	}))
	checkPlayed(t, "a full log", full, command(1, mark), impl.ClRefused)
	nearly := clusterWith(full, machine(1, func(m *impl.Machine) {
		m.Node.Log, m.Node.Commit, m.Done = longLog(499, 2), 499, 499
		m.Disk = journalDisk(rawVote(2, 1), rawEntries(m.Node.Log...))
	}))
	checkPlayed(t, "the 500th", nearly, command(1, mark), impl.ClOk)
}

func TestClusterMembers(t *testing.T) {
	c := ledCluster(t, 4, 3)
	step := func(op, id int64) impl.Step { return impl.Step{Kind: impl.StConf, At: 1, Op: op, Id: id} }
	learns := play(t, c, step(impl.CnLearn, 4))
	if log := learns.Machines[0].Node.Log; log[1] != confEntry(1, "v 1 2 3 l 4") || !sameNet(learns.Net, c.Net) {
		t.Errorf("%+v", log)
	}
	checkSaved(t, "members", learns.Machines[0].Disk, 1, 1, learns.Machines[0].Node.Log...)
	checkPlayed(t, "a second change ahead of the first", learns, step(impl.CnLearn, 5), impl.ClRefused)
	learns = deliverAll(t, play(t, learns, at(impl.StBeat, 1)))
	learns = deliverAll(t, play(t, learns, at(impl.StBeat, 1)))
	if got := impl.ConfNow(learns.Machines[3].Node); !sameConf(got, confOf([]int64{1, 2, 3}, []int64{4})) {
		t.Errorf("the learner knows %+v", got)
	}
	voters := deliverAll(t, play(t, learns, step(impl.CnPromote, 4), at(impl.StBeat, 1)))
	if got := impl.ConfText(impl.ConfNow(voters.Machines[0].Node)); got != "v 1 2 3 4" {
		t.Error(got)
	}
	less := play(t, voters, step(impl.CnRemove, 2))
	if got := impl.ConfText(impl.ConfNow(less.Machines[0].Node)); got != "v 1 3 4" {
		t.Error(got)
	}
	far := play(t, c, step(impl.CnLearn, 50), at(impl.StBeat, 1))
	for _, p := range far.Net.Packets {
		if p.To > 4 {
			t.Errorf("a packet to %d", p.To)
		}
	}
	if len(far.Net.Packets) != 2 || len(far.Machines[0].Node.Peers) != 3 {
		t.Errorf("%+v", far.Net)
	}
	for _, r := range []struct {
		what   string
		op, id int64
	}{
		{"CnForm, a kind of 0", 0, 4}, {"CnForm, a kind of 4", 4, 4}, {"CnForm, a kind of -1", -1, 4}, {"CnForm, the id 0", 1, 0}, {"CnForm, the id 51", 1, 51}, {"CnForm, a great kind", math.MaxInt64, 4}, {"CnForm, the least id", 3, math.MinInt64},
		{"CnThere, a voter learns", 1, 2}, {"CnThere, no learner", 2, 4}, {"CnThere, a voter is promoted", 2, 3}, {"CnThere, nobody goes", 3, 4},
	} {
		checkPlayed(t, r.what, c, step(r.op, r.id), impl.ClRefused)
	}
	checkPlayed(t, "CnThere, a learner learns", learns, step(impl.CnLearn, 4), impl.ClRefused)
	alone := play(t, newCluster(t, 2, 1), at(impl.StStart, 1))
	checkPlayed(t, "CnLast", alone, step(impl.CnRemove, 1), impl.ClRefused)
	for id := int64(11); id <= 17; id++ {
		alone = play(t, alone, step(impl.CnLearn, id))
	}
	checkPlayed(t, "CnMany, learners", alone, step(impl.CnLearn, 18), impl.ClRefused)
	many := clusterWith(newCluster(t, 1, 1), machine(1, func(m *impl.Machine) {
		m.Node = with(leaderAlone(), func(n *impl.Node) {
			n.BaseConf = confOf(countUp(1, 7), []int64{9})
			for _, id := range []int64{2, 3, 4, 5, 6, 7, 9} {
				n.Peers = append(n.Peers, impl.Peer{Id: id, Next: 1})
			}
		})
		m.Disk, m.Done = journalDisk(rawVote(2, 1), rawEntries(m.Node.Log...)), 2
	}))
	checkPlayed(t, "CnMany, voters", many, step(impl.CnPromote, 9), impl.ClRefused)
	checkPlayed(t, "as many as may be", many, step(impl.CnRemove, 9), impl.ClOk)
	checkPlayed(t, "PpLeader", c, impl.Step{Kind: impl.StConf, At: 2, Op: impl.CnLearn, Id: 4}, impl.ClRefused)
	early := play(t, newCluster(t, 3, 3), at(impl.StStart, 1), deliver(1), deliver(3))
	checkPlayed(t, "PpConf, nothing of its term is agreed on", early, step(impl.CnLearn, 4), impl.ClRefused)
}

func TestClusterDeliver(t *testing.T) {
	c := newCluster(t, 3, 3)
	vote := impl.Msg{Kind: impl.MsVote, From: 1, To: 2, Term: 4}
	answer := impl.Msg{Kind: impl.MsVoted, From: 2, To: 1, Term: 4, Ok: true}
	two := clusterWith(c, under(vote, vote))
	next := play(t, two, deliver(1))
	checkSent(t, "taken off", kept(two.Net, 2), next.Net, answer)
	checkSaved(t, "taken off", next.Machines[1].Disk, 4, 1)
	keep := play(t, two, impl.Step{Kind: impl.StDeliver, Id: 1, Keep: true})
	checkSent(t, "kept", two.Net, keep.Net, answer)
	if twice := play(t, keep, deliver(1)); len(twice.Net.Packets) != 3 || twice.Machines[1].Node.Vote != 1 {
		t.Errorf("delivered twice: %+v", twice.Net)
	}
	for _, id := range []int64{0, 3, -1, math.MaxInt64, math.MinInt64} {
		checkPlayed(t, fmt.Sprint("no packet ", id), two, deliver(id), impl.ClRefused)
		checkPlayed(t, fmt.Sprint("no packet to keep ", id), two, impl.Step{Kind: impl.StDeliver, Id: id, Keep: true}, impl.ClRefused)
		checkPlayed(t, fmt.Sprint("no packet to drop ", id), two, impl.Step{Kind: impl.StDrop, Id: id}, impl.ClRefused)
	}
	checkPlayed(t, "one that was taken", next, deliver(1), impl.ClRefused)
	for _, number := range []int64{0, 1, 3, 4, math.MinInt64, math.MaxInt64} {
		if got := play(t, two, impl.Step{Kind: impl.StDeliver, At: number, Id: 1}); !sameCluster(got, next) {
			t.Errorf("At %d: something else", number)
		}
	}
	for what, change := range map[string]func(*impl.Cluster){
		"not Up":                  machine(2, func(m *impl.Machine) { m.Up = false }),
		"no message":              func(c *impl.Cluster) { c.Net.Packets[0].Body = "x" },
		"an empty body":           func(c *impl.Cluster) { c.Net.Packets[0].Body = "" },
		"a byte behind":           func(c *impl.Cluster) { c.Net.Packets[0].Body += "\x00" },
		"an Id above":             func(c *impl.Cluster) { c.Net.Packets[0].To = 4 },
		"the last Id":             func(c *impl.Cluster) { c.Net.Packets[0].To = 50 },
		"a message for another":   func(c *impl.Cluster) { c.Net.Packets[0].To = 3 },
		"a message from itself":   func(c *impl.Cluster) { m := vote; m.From = 2; c.Net.Packets[0].Body = rawMsg(m) },
		"a message of no kind":    func(c *impl.Cluster) { m := vote; m.Kind = 6; c.Net.Packets[0].Body = rawMsg(m) },
		"a message of an old one": func(c *impl.Cluster) { m := vote; m.Kind, m.Term = impl.MsVoted, 0; c.Net.Packets[0].Body = rawMsg(m) },
	} {
		b := clusterWith(two, change)
		off := play(t, b, deliver(1))
		stays := play(t, b, impl.Step{Kind: impl.StDeliver, Id: 1, Keep: true})
		want := clusterWith(b, func(c *impl.Cluster) { c.Net = kept(b.Net, 2) })
		if !sameCluster(off, want) || !sameCluster(stays, b) {
			t.Errorf("%s: %+v, %+v", what, off, stays)
		}
	}
}

func TestClusterDrop(t *testing.T) {
	c := clusterWith(ledCluster(t, 3, 3), under(impl.Msg{Kind: impl.MsVote, From: 3, To: 1, Term: 9}, impl.Msg{Kind: impl.MsVote, From: 3, To: 2, Term: 9}))
	for _, keep := range []bool{false, true} { // Keep says nothing here, nor does At
		for _, id := range []int64{-1, 0, 1, 4} {
			next := play(t, c, impl.Step{Kind: impl.StDrop, Id: 1, Keep: keep, At: id})
			if want := clusterWith(c, func(c *impl.Cluster) { c.Net = kept(c.Net, 2) }); !sameCluster(next, want) {
				t.Errorf("%+v", next)
			}
			checkPlayed(t, "dropped twice", next, impl.Step{Kind: impl.StDrop, Id: 1}, impl.ClRefused)
		}
	}
}

// Whose log was left out up to somewhere is not right here: what would do that is refused, and the packet stays.
func TestClusterSnapshots(t *testing.T) {
	c := ledCluster(t, 3, 3)
	snap := impl.Msg{Kind: impl.MsSnap, From: 3, To: 2, Term: 1, Index: 1, LogTerm: 1, Text: "state", Conf: voters(1, 2, 3)}
	checkPlayed(t, "what is agreed on already", clusterWith(c, under(snap)), deliver(1), impl.ClOk)
	snap.Index = 2
	checkPlayed(t, "what is not", clusterWith(c, under(snap)), deliver(1), impl.ClRefused)
	checkPlayed(t, "what is not, kept", clusterWith(c, under(snap)), impl.Step{Kind: impl.StDeliver, Id: 1, Keep: true}, impl.ClRefused)
	snap.Term = 7
	checkPlayed(t, "of a later term", clusterWith(c, under(snap)), deliver(1), impl.ClRefused)
	snap.Conf = impl.Conf{}
	next := checkPlayed(t, "with no members", clusterWith(c, under(snap)), deliver(1), impl.ClOk)
	if n := next.Machines[1].Node; n.Term != 7 || n.Leader != 3 || n.Base != 0 {
		t.Errorf("%+v", n)
	}
}

func TestClusterCrashAndUp(t *testing.T) {
	c := ledCluster(t, 3, 3)
	c = deliverAll(t, play(t, c, command(1, pinCmd("a")), at(impl.StBeat, 1)))
	c = play(t, c, command(1, pinCmd("b")), impl.Step{Kind: impl.StPut, At: 1, Cmd: impl.Cmd{Text: "blob"}})
	for id := int64(1); id <= 3; id++ {
		down := play(t, c, at(impl.StCrash, id))
		before, m := c.Machines[id-1], down.Machines[id-1]
		want := copyMachine(before)
		want.Up, want.Done, want.State = false, 0, impl.State{}
		want.Node.Commit, want.Node.Role, want.Node.Leader, want.Node.Votes, want.Node.Peers = 0, 0, 0, nil, nil
		if !sameMachine(m, want) || !sameNet(down.Net, c.Net) || !slices.Equal(down.Chosen, c.Chosen) || !slices.Equal(down.Leaders, c.Leaders) {
			t.Errorf("machine %d: %+v, not %+v", id, m, want)
		}
		up := play(t, down, at(impl.StUp, id))
		want.Up = true
		if !sameMachine(up.Machines[id-1], want) {
			t.Errorf("machine %d: %+v, not %+v", id, up.Machines[id-1], want)
		}
		checkHistory(t, down)
		checkHistory(t, up)
		// What it had done is done once more, and nothing is chosen twice.
		again := deliverAll(t, play(t, up, at(impl.StStart, id)))
		again = deliverAll(t, play(t, again, at(impl.StBeat, id)))
		checkHistory(t, again)
		if again.Machines[id-1].Node.Role == impl.RoLeader && len(again.Machines[id-1].State.Blobs) == 0 {
			t.Errorf("machine %d has done nothing once more", id)
		}
		for kind := int64(1); kind <= 9; kind++ {
			if kind != impl.StDeliver && kind != impl.StDrop && kind != impl.StUp {
				checkPlayed(t, fmt.Sprint("step ", kind, " of one that is not Up"), down, impl.Step{Kind: kind, At: id, Op: impl.CnLearn, Id: 4, Cmd: pinCmd("c")}, impl.ClDown)
			}
		}
		checkPlayed(t, "one that is Up", c, at(impl.StUp, id), impl.ClDown)
		checkPlayed(t, "one that is Up again", up, at(impl.StUp, id), impl.ClDown)
	}
}

// What a machine has that comes up is what its Disk has, whatever its Node had.
func TestClusterUpWithDisks(t *testing.T) {
	base := newCluster(t, 2, 2)
	entries := []impl.Entry{{Term: 1}, {Term: 2, Kind: 1, Body: rawCmd(pinCmd("a"))}, confEntry(2, "v 1")}
	down := func(disk impl.Disk, change func(*impl.Node)) impl.Cluster {
		return clusterWith(base, machine(1, func(m *impl.Machine) {
			m.Up, m.Disk = false, disk
			change(&m.Node)
		}))
	}
	nothing := func(*impl.Node) {}
	old := func(n *impl.Node) { n.Term, n.Vote, n.Log = 9, 2, logOf(8, 8, 8, 9) }
	both := journalDisk(rawVote(3, 2), rawEntries(entries...))
	for _, r := range []struct {
		what    string
		disk    impl.Disk
		journal impl.Journal
	}{
		{"nothing", impl.Disk{}, impl.Journal{}},
		{"a vote", synced(impl.File{Name: "vote", Data: rawVote(3, 2)}), impl.Journal{Term: 3, Vote: 2}},
		{"a term", synced(impl.File{Name: "vote", Data: rawVote(3, 0)}), impl.Journal{Term: 3}},
		{"entries alone", synced(impl.File{Name: "log", Data: rawEntries(entries...)}), impl.Journal{}},
		{"both", both, impl.Journal{Term: 3, Vote: 2, Entries: entries}},
		{"both, the term of its entries", journalDisk(rawVote(2, 1), rawEntries(entries...)), impl.Journal{Term: 2, Vote: 1, Entries: entries}},
		{"entries that are torn", journalDisk(rawVote(3, 2), rawEntries(entries...)[:40]), impl.Journal{Term: 3, Vote: 2, Entries: entries[:1]}},
		{"entries of later terms", journalDisk(rawVote(1, 2), rawEntries(entries...)), impl.Journal{Term: 1, Vote: 2, Entries: entries[:1]}},
		{"another file", synced(impl.File{Name: "other", Data: "x"}), impl.Journal{}},
	} {
		for what, change := range map[string]func(*impl.Node){"that had nothing": nothing, "that had others": old} {
			c := down(r.disk, change)
			next := checkPlayed(t, r.what+" of one "+what, c, at(impl.StUp, 1), impl.ClOk)
			m := next.Machines[0]
			if !m.Up || m.Node.Term != r.journal.Term || m.Node.Vote != r.journal.Vote || !slices.Equal(m.Node.Log, r.journal.Entries) || m.Node.Commit != 0 || m.Done != 0 || m.Node.Role != impl.RoFollower {
				t.Errorf("%s of one %s: %+v", r.what, what, m.Node)
			}
			if j, ok := impl.Recover(m.Disk); !ok || !sameJournal(j, r.journal) {
				t.Errorf("%s of one %s: the disk has %+v, %v", r.what, what, j, ok)
			}
			again := play(t, play(t, next, at(impl.StCrash, 1)), at(impl.StUp, 1))
			if !sameCluster(again, next) {
				t.Errorf("%s of one %s: crashed and up again it is another one", r.what, what)
			}
		}
	}
	for what, log := range map[string][]impl.Entry{
		"a kind of no log": {{Term: 1}, {Term: 1, Kind: 5}}, "nothing with a body": {{Term: 1, Body: "x"}}, "members that are none": {confEntry(1, "v")},
	} {
		c := down(journalDisk(rawVote(3, 2), rawEntries(log...)), nothing)
		checkPlayed(t, what, c, at(impl.StUp, 1), impl.ClRefused)
	}
	checkPlayed(t, "no vote to be read, of one that had something", down(journalDisk("x", ""), old), at(impl.StUp, 1), impl.ClRefused)
	blank := checkPlayed(t, "no vote to be read, of one that had nothing", down(journalDisk("x", ""), nothing), at(impl.StUp, 1), impl.ClOk)
	checkPlayed(t, "no vote to be read, and then one is needed", blank, at(impl.StStart, 1), impl.ClRefused)
	agreed := clusterWith(down(both, func(n *impl.Node) { n.Term, n.Log, n.Commit = 2, slices.Clone(entries), 3 }), machine(1, func(m *impl.Machine) { m.Done = 1 }))
	next := checkPlayed(t, "entries agreed on", agreed, at(impl.StUp, 1), impl.ClOk)
	if m := next.Machines[0]; m.Done != 3 || len(m.State.Blobs) != 1 || len(next.Chosen) != 2 || next.Chosen[0] != entries[1] {
		t.Errorf("%+v, %+v", m, next.Chosen)
	}
	short := clusterWith(agreed, machine(1, func(m *impl.Machine) { m.Disk = journalDisk(rawVote(3, 2), rawEntries(entries[:2]...)) }))
	checkPlayed(t, "fewer entries than agreed on", short, at(impl.StUp, 1), impl.ClRefused)
	checkPlayed(t, "a crash of one with a busy disk", clusterWith(base, machine(1, func(m *impl.Machine) { m.Disk = busier(both, 7) })), at(impl.StCrash, 1), impl.ClOk)
	crashed := play(t, clusterWith(base, machine(1, func(m *impl.Machine) { m.Disk = busier(both, 7) })), at(impl.StCrash, 1))
	if !sameDisk(crashed.Machines[0].Disk, busier(both, 7)) {
		t.Error("a crash changes the disk")
	}
}

func TestClusterPut(t *testing.T) {
	c := newCluster(t, 2, 2)
	put := func(id int64, text string) impl.Step {
		return impl.Step{Kind: impl.StPut, At: id, Cmd: impl.Cmd{Text: text, Op: 99, Repo: "says nothing"}}
	}
	for _, text := range []string{"", "blob", strings.Repeat("x", 100)} {
		next := play(t, c, put(2, text))
		want := clusterWith(c, machine(2, func(m *impl.Machine) { m.Store.Blobs, m.Store.Next = blobsOf(text), 2 }))
		if !sameCluster(next, want) {
			t.Errorf("%s: %+v", short(text), next.Machines[1].Store)
		}
	}
	checkPlayed(t, "BlQuota", c, put(1, strings.Repeat("x", 101)), impl.ClRefused)
	twice := play(t, c, put(1, "blob"), put(1, "blob"))
	if s := twice.Machines[0].Store; len(s.Blobs) != 1 || s.Next != 3 {
		t.Errorf("%+v", s)
	}
	with := func(s impl.Store) impl.Cluster {
		return clusterWith(c, machine(1, func(m *impl.Machine) { m.Store = s }))
	}
	checkPlayed(t, "the 61st blob", with(impl.Store{Quota: 999, Blobs: manyBlobs(60), Next: 1}), put(1, "new"), impl.ClRefused)
	checkPlayed(t, "one of 60", with(impl.Store{Quota: 999, Blobs: manyBlobs(60), Next: 1}), put(1, "07"), impl.ClOk)
	checkPlayed(t, "the 60th blob", with(impl.Store{Quota: 999, Blobs: manyBlobs(59), Next: 1}), put(1, "new"), impl.ClOk)
	checkPlayed(t, "10 uploads", with(impl.Store{Quota: 999, Uploads: manyUploads(10, ""), Next: 11}), put(1, "new"), impl.ClRefused)
	checkPlayed(t, "no Id left", with(impl.Store{Quota: 999, Next: impl.MaxNumber}), put(1, "new"), impl.ClRefused)
	for _, node := range []impl.Node{with1(aCandidate()), with1(aFollower())} { // who it is does not matter
		checkPlayed(t, "any role", clusterWith(newCluster(t, 2, 2), machine(2, func(m *impl.Machine) { m.Node = node })), put(2, "new"), impl.ClOk)
	}
}

// with1 is a node of the raft tests with nothing left out.
func with1(n impl.Node) impl.Node {
	return with(n, func(n *impl.Node) { n.Base, n.Commit, n.BaseState = 0, 2, "" })
}

func TestClusterKinds(t *testing.T) {
	c := ledCluster(t, 3, 3)
	for _, kind := range []int64{math.MinInt64, -1, 0, 10, 11, 1 << 32, 1<<32 + 1, math.MaxInt64} {
		for _, id := range []int64{-1, 0, 1, 3, 4} {
			checkPlayed(t, fmt.Sprint("Kind ", kind), c, impl.Step{Kind: kind, At: id}, impl.ClKind)
		}
	}
	down := play(t, c, at(impl.StCrash, 2))
	for kind := int64(1); kind <= 9; kind++ {
		if kind == impl.StDeliver || kind == impl.StDrop {
			continue
		}
		for _, id := range []int64{math.MinInt64, -1, 0, 4, 5, 1<<32 + 1, math.MaxInt64} {
			checkPlayed(t, fmt.Sprint("step ", kind, " At ", id), c, impl.Step{Kind: kind, At: id}, impl.ClAt)
		}
		for _, id := range []int64{1, 3} {
			if _, code := checkPlay(t, "At", c, impl.Step{Kind: kind, At: id}); code == impl.ClAt {
				t.Errorf("step %d At %d: no machine", kind, id)
			}
		}
		want := int64(impl.ClDown)
		if kind == impl.StUp {
			want = impl.ClOk
		}
		checkPlayed(t, fmt.Sprint("step ", kind, " of one that is not Up"), down, impl.Step{Kind: kind, At: 2}, want)
	}
	wrong := clusterWith(c, func(c *impl.Cluster) { c.Net.Next = 0 })
	for _, r := range []struct {
		what string
		c    impl.Cluster
		a    impl.Step
		code int64
	}{
		{"not right, no Kind", wrong, impl.Step{Kind: 10}, impl.ClCluster},
		{"not right, no At", wrong, at(impl.StBeat, 9), impl.ClCluster},
		{"not right, refused", wrong, deliver(99), impl.ClCluster},
		{"no Kind, no At", c, impl.Step{Kind: 0, At: 9}, impl.ClKind},
		{"no Kind, not Up", down, impl.Step{Kind: 10, At: 2}, impl.ClKind},
		{"no At, refused", c, impl.Step{Kind: impl.StCmd, At: 4}, impl.ClAt},
		{"no At, refused members", c, impl.Step{Kind: impl.StConf, At: 0, Op: 9}, impl.ClAt},
		{"not Up, refused", down, impl.Step{Kind: impl.StCmd, At: 2}, impl.ClDown},
		{"not Up, refused members", down, impl.Step{Kind: impl.StConf, At: 2, Op: 9}, impl.ClDown},
		{"not Up, refused blob", down, impl.Step{Kind: impl.StPut, At: 2, Cmd: impl.Cmd{Text: strings.Repeat("x", 101)}}, impl.ClDown},
		{"Up, a disk that would be refused", clusterWith(c, machine(2, func(m *impl.Machine) { m.Disk = journalDisk("x", "") })), at(impl.StUp, 2), impl.ClDown},
		{"refused", c, impl.Step{Kind: impl.StCmd, At: 1}, impl.ClRefused},
	} {
		checkPlayed(t, r.what, r.c, r.a, r.code)
	}
}

// A code of the journal refuses the whole step: the machine, the net and all else are as they were.
func TestClusterSavesAllOrNothing(t *testing.T) {
	alone := newCluster(t, 1, 1)
	const vote, entry = 11, 12 // bytes of their frames in the first term
	for room, want := range map[int]int64{0: impl.ClRefused, vote - 1: impl.ClRefused, vote: impl.ClRefused, vote + entry - 1: impl.ClRefused, vote + entry: impl.ClOk, 500: impl.ClOk} {
		c := clusterWith(alone, machine(1, func(m *impl.Machine) {
			m.Disk = synced(impl.File{Name: "z", Data: strings.Repeat("z", impl.MaxBytes-room)})
		}))
		checkPlayed(t, fmt.Sprint("room for ", room), c, at(impl.StStart, 1), want)
	}
	for ops, want := range map[int]int64{0: impl.ClOk, 198: impl.ClOk, 199: impl.ClRefused, 200: impl.ClRefused} {
		c := clusterWith(alone, machine(1, func(m *impl.Machine) { m.Disk = appends(ops) }))
		next := checkPlayed(t, fmt.Sprint(ops, " ops"), c, at(impl.StStart, 1), want)
		if want == impl.ClOk && len(next.Machines[0].Disk.Ops) != 0 {
			t.Error("not synced")
		}
	}
	three := newCluster(t, 3, 3)
	full := func(c *impl.Cluster) {
		c.Machines[1].Disk = synced(impl.File{Name: "z", Data: strings.Repeat("z", impl.MaxBytes)})
	}
	asked := clusterWith(three, under(impl.Msg{Kind: impl.MsVote, From: 1, To: 2, Term: 3}), full)
	checkPlayed(t, "a vote that finds no room", asked, deliver(1), impl.ClRefused)
	checkPlayed(t, "a vote that finds no room, kept", asked, impl.Step{Kind: impl.StDeliver, Id: 1, Keep: true}, impl.ClRefused)
	checkPlayed(t, "a term that finds no room", clusterWith(three, under(impl.Msg{Kind: impl.MsVoted, From: 1, To: 2, Term: 3}), full), deliver(1), impl.ClRefused)
	checkPlayed(t, "nothing to save", clusterWith(three, under(impl.Msg{Kind: impl.MsVoted, From: 1, To: 2}), full), deliver(1), impl.ClOk)
	checkPlayed(t, "a beat with a full disk", clusterWith(three, full), at(impl.StBeat, 2), impl.ClOk)
	checkPlayed(t, "a blob with a full disk", clusterWith(three, full), impl.Step{Kind: impl.StPut, At: 2, Cmd: impl.Cmd{Text: "b"}}, impl.ClOk)
	checkPlayed(t, "a start with a full disk", clusterWith(three, full), at(impl.StStart, 2), impl.ClRefused)
	for what, disk := range map[string]impl.Disk{
		"JnVote, a greater term":   synced(impl.File{Name: "vote", Data: rawVote(9, 0)}),
		"JnVote, another vote":     synced(impl.File{Name: "vote", Data: rawVote(1, 3)}),
		"JnVote, no vote":          synced(impl.File{Name: "vote", Data: "x"}),
		"JnVote, an empty file":    synced(impl.File{Name: "vote"}),
		"JnVote, more behind":      synced(impl.File{Name: "vote", Data: rawVote(0, 0) + "x"}),
		"DkFull, 60 files already": synced(filesOf(60, "")...),
	} {
		c := clusterWith(alone, machine(1, func(m *impl.Machine) { m.Disk = disk }))
		checkPlayed(t, what, c, at(impl.StStart, 1), impl.ClRefused)
	}
	led := ledCluster(t, 1, 1)
	for what, disk := range map[string]impl.Disk{
		"JnEntries, no entries on it":   synced(impl.File{Name: "vote", Data: rawVote(1, 1)}),
		"JnEntries, a lesser term":      journalDisk(rawVote(0, 0), rawEntries(impl.Entry{Term: 1})),
		"JnEntries, nothing on it":      {},
		"JnEntries, no vote to be read": journalDisk("x", rawEntries(impl.Entry{Term: 1})),
	} {
		c := clusterWith(led, machine(1, func(m *impl.Machine) { m.Disk = disk }))
		checkPlayed(t, what, c, command(1, impl.Cmd{Op: impl.CmMark}), impl.ClRefused)
	}
	longer := clusterWith(led, machine(1, func(m *impl.Machine) {
		m.Disk = journalDisk(rawVote(1, 1), rawEntries(impl.Entry{Term: 1}, impl.Entry{Term: 1, Kind: 1, Body: "other"}, impl.Entry{Term: 1, Kind: 1, Body: "more"}))
	}))
	next := checkPlayed(t, "more on it than it has", longer, command(1, impl.Cmd{Op: impl.CmMark}), impl.ClOk)
	checkSaved(t, "more on it than it has", next.Machines[0].Disk, 1, 1, next.Machines[0].Node.Log...)
}

// Entries that take the place of others are saved from the first one on that is another one.
func TestClusterSavesFromTheFirstThatIsAnother(t *testing.T) {
	log := logOf(1, 1, 2, 2)
	follower := func(disk []impl.Entry) impl.Cluster {
		return clusterWith(newCluster(t, 3, 3), machine(2, func(m *impl.Machine) {
			m.Node.Term, m.Node.Vote, m.Node.Log, m.Node.Commit, m.Done = 3, 0, slices.Clone(log), 1, 1
			m.Disk = journalDisk(rawVote(3, 0), rawEntries(disk...))
		}))
	}
	sent := func(index, term, logTerm int64, entries ...impl.Entry) func(*impl.Cluster) {
		return under(impl.Msg{Kind: impl.MsAppend, From: 1, To: 2, Term: term, Index: index, LogTerm: logTerm, Entries: entries})
	}
	fresh := otherLog(3, 3)
	for _, r := range []struct {
		what  string
		sent  func(*impl.Cluster)
		saved []impl.Entry
		term  int64
		code  int64
	}{
		{"behind the last", sent(4, 3, 2, fresh...), slices.Concat(log, fresh), 3, impl.ClOk},
		{"in place of the last", sent(3, 3, 2, fresh...), slices.Concat(log[:3], fresh), 3, impl.ClOk},
		{"in place of two", sent(2, 3, 1, fresh...), slices.Concat(log[:2], fresh), 3, impl.ClOk},
		{"in place of all that are not agreed on", sent(1, 3, 1, fresh[0]), slices.Concat(log[:1], fresh[:1]), 3, impl.ClOk},
		{"some that are there, and others", sent(1, 3, 1, log[1], log[2], fresh[0]), slices.Concat(log[:3], fresh[:1]), 3, impl.ClOk},
		{"those that are there", sent(1, 3, 1, log[1:]...), log, 3, impl.ClOk},
		{"in a later term", sent(3, 5, 2, fresh...), slices.Concat(log[:3], fresh), 5, impl.ClOk},
	} {
		next := checkPlayed(t, r.what, clusterWith(follower(log), r.sent), deliver(1), r.code)
		checkSaved(t, r.what, next.Machines[1].Disk, r.term, 0, r.saved...)
		if !slices.Equal(next.Machines[1].Node.Log, r.saved) {
			t.Errorf("%s: %+v", r.what, next.Machines[1].Node.Log)
		}
	}
	// A disk with other entries ahead keeps these: only what has changed is saved.
	other := otherLog(1, 1, 2, 2)
	next := checkPlayed(t, "others on the disk", clusterWith(follower(other), sent(3, 3, 2, fresh...)), deliver(1), impl.ClOk)
	checkSaved(t, "others on the disk", next.Machines[1].Disk, 3, 0, slices.Concat(other[:3], fresh)...)
	checkPlayed(t, "too few on the disk", clusterWith(follower(log[:2]), sent(3, 3, 2, fresh...)), deliver(1), impl.ClRefused)
	checkPlayed(t, "just enough on the disk", clusterWith(follower(log[:3]), sent(3, 3, 2, fresh...)), deliver(1), impl.ClOk)
}

// What is agreed on and not done is done by whatever a machine does, once and in order; another machine's is not.
func TestClusterDoesWhatIsAgreedOn(t *testing.T) {
	cmds := []impl.Cmd{pinCmd("a"), of(4, 1, impl.Cmd{Op: impl.CmMark}), of(4, 1, impl.Cmd{Op: impl.CmMark}), pinCmd("b")}
	log := []impl.Entry{{Term: 1}}
	for _, cmd := range cmds {
		log = append(log, impl.Entry{Term: 1, Kind: impl.EnCommand, Body: rawCmd(cmd)})
	}
	log = append(log, impl.Entry{Term: 1, Kind: impl.EnCommand, Body: "no command"}, confEntry(1, "v 1 2"), impl.Entry{Term: 1, Kind: impl.EnCommand})
	states := []impl.State{{}, {}}
	for _, cmd := range cmds {
		s, _ := slowApply(states[len(states)-1], cmd)
		states = append(states, s)
	}
	for len(states) <= len(log) {
		states = append(states, states[len(states)-1])
	}
	for done := int64(0); done <= 8; done++ {
		for commit := done; commit <= 8; commit++ {
			for chosen := range 10 {
				c := clusterWith(newCluster(t, 2, 2), machine(2, func(m *impl.Machine) {
					m.Node.Term, m.Node.Log, m.Node.Commit, m.Done = 1, slices.Clone(log), commit, done
					m.State = states[done]
					m.Disk = journalDisk(rawVote(1, 0), rawEntries(log...))
				}), func(c *impl.Cluster) { c.Chosen = otherLog(slices.Repeat([]int64{1}, chosen)...) })
				next := play(t, c, at(impl.StBeat, 2))
				want := slices.Clone(c.Chosen)
				for i := done; i < commit; i++ {
					if i+1 > int64(len(want)) {
						want = append(want, log[i])
					}
				}
				if m := next.Machines[1]; m.Done != commit || !sameState(m.State, states[commit]) || !slices.Equal(next.Chosen, want) {
					t.Fatalf("done %d, agreed on %d, chosen %d: %+v, %+v", done, commit, chosen, m, next.Chosen)
				}
				if chosen > 0 || done != 3 || commit != 6 {
					continue
				}
				for _, a := range []impl.Step{at(impl.StStart, 1), at(impl.StBeat, 1), {Kind: impl.StPut, At: 1}} {
					if other := play(t, c, a); !sameState(other.Machines[1].State, states[done]) || other.Machines[1].Done != done || len(other.Chosen) != 0 {
						t.Errorf("%+v does what another machine has to do", a)
					}
				}
				for _, a := range []impl.Step{{Kind: impl.StPut, At: 2}, at(impl.StStart, 2)} {
					if other := play(t, c, a); !sameState(other.Machines[1].State, states[commit]) || other.Machines[1].Done != commit || len(other.Chosen) != 3 {
						t.Errorf("%+v leaves something to do", a)
					}
				}
			}
		}
	}
}

func TestClusterRows(t *testing.T) {
	alone := newCluster(t, 1, 1)
	for n, want := range map[int]int64{0: impl.ClOk, 1998: impl.ClOk, 1999: impl.ClOk, 2000: impl.ClRefused} {
		c := clusterWith(alone, func(c *impl.Cluster) { c.Leaders = make([]impl.Lead, n) })
		next := checkPlayed(t, fmt.Sprint(n, " leaders"), c, at(impl.StStart, 1), want)
		if want == impl.ClOk && (len(next.Leaders) != n+1 || next.Leaders[n] != (impl.Lead{Term: 1, Node: 1})) {
			t.Errorf("%d leaders: %+v", n, next.Leaders[n:])
		}
		led := clusterWith(ledCluster(t, 1, 1), func(c *impl.Cluster) { c.Leaders = make([]impl.Lead, n) })
		checkPlayed(t, fmt.Sprint(n, " leaders, and no new one"), led, command(1, pinCmd("a")), impl.ClOk)
	}
	for _, n := range []int{1999, 2000} {
		c := clusterWith(alone, func(c *impl.Cluster) { c.Chosen = make([]impl.Entry, n) })
		next := checkPlayed(t, fmt.Sprint(n, " chosen"), c, at(impl.StStart, 1), impl.ClOk) // its index is not above
		if len(next.Chosen) != n {
			t.Errorf("%d chosen", len(next.Chosen))
		}
	}
	again := play(t, ledCluster(t, 1, 1), at(impl.StCrash, 1), at(impl.StUp, 1), at(impl.StStart, 1))
	if !slices.Equal(again.Leaders, []impl.Lead{{Term: 1, Node: 1}, {Term: 2, Node: 1}}) {
		t.Errorf("%+v", again.Leaders)
	}
}

func TestClusterSends(t *testing.T) {
	c := newCluster(t, 7, 7)
	next := play(t, c, at(impl.StStart, 4))
	var tos []int64
	for _, p := range next.Net.Packets {
		tos = append(tos, p.To)
	}
	if !slices.Equal(tos, []int64{1, 2, 3, 5, 6, 7}) {
		t.Errorf("sent to %v", tos)
	}
	for there, sent := range map[int]int{293: 6, 294: 6, 295: 5, 299: 1, 300: 0} {
		full := clusterWith(c, func(c *impl.Cluster) { c.Net = impl.Net{Next: 1000, Packets: manyPackets(there)} })
		next := play(t, full, at(impl.StStart, 4))
		if len(next.Net.Packets) != there+sent || next.Net.Next != 1000+int64(sent) {
			t.Errorf("behind %d: %d", there, len(next.Net.Packets))
		}
		checkSaved(t, "with a full net", next.Machines[3].Disk, 1, 4)
	}
	for _, left := range []int64{0, 1, 5, 6, 7} {
		end := clusterWith(c, func(c *impl.Cluster) { c.Net.Next = impl.MaxNumber - left })
		if next := play(t, end, at(impl.StStart, 4)); int64(len(next.Net.Packets)) != min(left, 6) {
			t.Errorf("%d Ids left: %d", left, len(next.Net.Packets))
		}
	}
	// A message that is too long for a packet is left out; those behind it are sent.
	long := slices.Repeat([]impl.Entry{{Term: 1, Kind: 1, Body: strings.Repeat("x", 4000)}}, 6)
	leader := clusterWith(newCluster(t, 3, 3), machine(1, func(m *impl.Machine) {
		m.Node.Term, m.Node.Vote, m.Node.Role, m.Node.Leader, m.Node.Log = 1, 1, impl.RoLeader, 1, long
		m.Node.Peers = []impl.Peer{{Id: 2, Next: 1}, {Id: 3, Next: 6}}
		m.Disk = journalDisk(rawVote(1, 1), rawEntries(long...))
	}))
	beaten := play(t, leader, at(impl.StBeat, 1))
	checkSent(t, "one too long", leader.Net, beaten.Net, impl.Msg{Kind: impl.MsAppend, From: 1, To: 3, Term: 1, Index: 5, LogTerm: 1, Entries: long[5:]})
	// The answer to one that is no machine is left out.
	stranger := clusterWith(newCluster(t, 3, 3), under(impl.Msg{Kind: impl.MsVote, From: 4, To: 2, Term: 1}))
	answered := play(t, stranger, deliver(1))
	if len(answered.Net.Packets) != 0 || answered.Net.Next != 2 || answered.Machines[1].Node.Vote != 4 {
		t.Errorf("%+v", answered)
	}
	checkSaved(t, "a vote for a stranger", answered.Machines[1].Disk, 1, 4)
}

func TestClusterPlayAll(t *testing.T) {
	c := newCluster(t, 3, 3)
	check := func(what string, list []impl.Step, want int64) impl.Cluster {
		t.Helper()
		got, count := impl.PlayAll(c, list)
		slow, slowCount := slowPlayAll(c, list)
		if count != want || slowCount != want || !sameCluster(got, slow) {
			t.Errorf("%s: %d, slowly %d, not %d", what, count, slowCount, want)
		}
		if count < 0 {
			return got
		}
		if !impl.ClusterOk(got) {
			t.Errorf("%s: not right any more", what)
		}
		one := c
		for _, a := range list {
			one, _ = impl.Play(one, a)
		}
		if !sameCluster(one, got) {
			t.Errorf("%s: step by step it is something else", what)
		}
		for cut := range len(list) + 1 {
			if len(list) > 20 && cut%50 > 1 {
				continue
			}
			half, first := impl.PlayAll(c, list[:cut])
			whole, second := impl.PlayAll(half, list[cut:])
			if first+second != want || !sameCluster(whole, got) {
				t.Errorf("%s: in two pieces at %d: %d and %d", what, cut, first, second)
			}
		}
		return got
	}
	if same := check("no step", nil, 0); !sameCluster(same, c) {
		t.Errorf("no step: %+v", same)
	}
	check("an empty list", []impl.Step{}, 0)
	led := check("an election", []impl.Step{at(impl.StStart, 1), deliver(1), deliver(3)}, 3)
	if len(led.Leaders) != 1 {
		t.Errorf("%+v", led.Leaders)
	}
	check("with codes among them", []impl.Step{{Kind: 10}, at(impl.StStart, 1), at(impl.StBeat, 4), deliver(1), at(impl.StUp, 1), deliver(99), deliver(3), at(impl.StCrash, 2), at(impl.StBeat, 2), command(1, pinCmd("a")), command(3, pinCmd("a"))}, 5)
	check("codes alone", []impl.Step{{}, {Kind: 10}, at(impl.StUp, 1), deliver(1)}, 0)
	beats := slices.Repeat([]impl.Step{at(impl.StBeat, 1)}, 301)
	check("299", beats[:299], 299)
	check("300", beats[:300], 300)
	if got := check("301", beats, -1); !isZeroCluster(got) {
		t.Error("301: not the zero value")
	}
	check("301 with codes", make([]impl.Step, 301), -1)
	starts := slices.Repeat([]impl.Step{at(impl.StStart, 1), at(impl.StStart, 2), at(impl.StStart, 3)}, 100)
	full := check("as much as can be under way", starts, 300)
	if len(full.Net.Packets) != 300 || full.Machines[0].Node.Term != 100 {
		t.Errorf("%d packets", len(full.Net.Packets))
	}
	for _, wrong := range []impl.Cluster{{}, clusterWith(c, func(c *impl.Cluster) { c.Net.Next = 0 }), clusterWith(c, machine(2, func(m *impl.Machine) { m.Node.Id = 3 }))} {
		for _, list := range [][]impl.Step{nil, beats[:1], beats} {
			if got, count := impl.PlayAll(wrong, list); count != -1 || !isZeroCluster(got) {
				t.Errorf("%d steps of a wrong one: %d", len(list), count)
			}
		}
	}
}

func roomyCluster(c impl.Cluster) impl.Cluster {
	next := impl.Cluster{Net: c.Net, Leaders: roomy(c.Leaders, impl.Lead{Term: 97}), Chosen: roomy(c.Chosen, impl.Entry{Term: 97, Body: "spare"})}
	next.Net.Packets = roomy(c.Net.Packets, impl.Packet{Id: 97})
	next.Machines = roomy(c.Machines, impl.Machine{Done: 97})
	for i, m := range next.Machines {
		next.Machines[i].Node, next.Machines[i].Disk, next.Machines[i].Store, next.Machines[i].State = roomyNode(m.Node), roomyDisk(m.Disk), roomyStore(m.Store), roomyState(m.State)
	}
	return next
}

func partsOfCluster(what string, c impl.Cluster) []part {
	parts := []part{partOf(what+"'s Packets", c.Net.Packets, impl.Packet{Id: -9}), partOf(what+"'s Leaders", c.Leaders, impl.Lead{Term: -9}), partOf(what+"'s Chosen", c.Chosen, impl.Entry{Term: -9})}
	for i, m := range c.Machines {
		name := fmt.Sprint(what, "'s machine ", i+1)
		parts = append(parts, partsOfNode(name, m.Node)...)
		parts = append(parts, partsOfState(name, m.State)...)
		parts = append(parts, partOf(name+"'s stored Blobs", m.Store.Blobs, impl.Blob{Digest: "changed"}), partOf(name+"'s Uploads", m.Store.Uploads, impl.Upload{Id: -9}))
		parts = append(parts, partOf(name+"'s Live", m.Disk.Live, impl.File{Name: "changed"}), partOf(name+"'s Safe", m.Disk.Safe, impl.File{Name: "changed"}), partOf(name+"'s Ops", m.Disk.Ops, removeOp("changed")))
	}
	return append(parts, shallowPart(what+"'s Machines", c.Machines, func(a, b impl.Machine) bool {
		return a.Done == b.Done && a.Up == b.Up && a.Node.Id == b.Node.Id && a.Node.Term == b.Node.Term && a.Node.Commit == b.Node.Commit && a.Store.Quota == b.Store.Quota && a.Store.Next == b.Store.Next && a.State.Epoch == b.State.Epoch &&
			sameList(a.Node.Log, b.Node.Log) && sameList(a.Node.Votes, b.Node.Votes) && sameList(a.Node.Peers, b.Node.Peers) && sameList(a.Node.BaseConf.Voters, b.Node.BaseConf.Voters) && sameList(a.Node.BaseConf.Learners, b.Node.BaseConf.Learners) &&
			sameList(a.Disk.Live, b.Disk.Live) && sameList(a.Disk.Safe, b.Disk.Safe) && sameList(a.Disk.Ops, b.Disk.Ops) && sameList(a.Store.Blobs, b.Store.Blobs) && sameList(a.Store.Uploads, b.Store.Uploads) && sameList(a.State.Blobs, b.State.Blobs)
	}, impl.Machine{Done: -9}))
}

// A clusterAnswer is what a call of chapter 18 answers.
type clusterAnswer struct {
	cluster impl.Cluster
	rest    int64
}

func (a clusterAnswer) parts() []part { return partsOfCluster("the answer", a.cluster) }

func (a clusterAnswer) clone() clusterAnswer { return clusterAnswer{copyCluster(a.cluster), a.rest} }

func (a clusterAnswer) same(b clusterAnswer) bool {
	return a.rest == b.rest && sameCluster(a.cluster, b.cluster)
}

// busyCluster has something in each of its lists, and packets of each kind under way.
func busyCluster(t *testing.T) impl.Cluster {
	t.Helper()
	c := ledCluster(t, 4, 3)
	c = play(t, c, command(1, of(4, 1, pinCmd("a"))), impl.Step{Kind: impl.StConf, At: 1, Op: impl.CnLearn, Id: 4}, at(impl.StBeat, 1))
	c = deliverAll(t, c)
	c = play(t, c, impl.Step{Kind: impl.StPut, At: 2, Cmd: impl.Cmd{Text: "blob"}}, command(1, pinCmd("b")), at(impl.StBeat, 1), at(impl.StCrash, 3), at(impl.StStart, 2))
	c.Machines[0].State = aState()
	c.Machines[3].Disk = busier(c.Machines[3].Disk, 3)
	return c
}

func manySteps(c impl.Cluster) []impl.Step {
	list := []impl.Step{
		{}, at(impl.StStart, 1), at(impl.StStart, 2), at(impl.StStart, 4), at(impl.StBeat, 1), at(impl.StBeat, 2), at(impl.StBeat, 3), at(impl.StBeat, 9), command(1, pinCmd("c")), command(1, impl.Cmd{}), command(2, pinCmd("c")),
		{Kind: impl.StConf, At: 1, Op: impl.CnLearn, Id: 9}, {Kind: impl.StConf, At: 1, Op: impl.CnRemove, Id: 2}, at(impl.StCrash, 1), at(impl.StCrash, 2), at(impl.StUp, 3), at(impl.StUp, 1),
		{Kind: impl.StPut, At: 1, Cmd: impl.Cmd{Text: "x"}}, {Kind: impl.StPut, At: 1, Cmd: impl.Cmd{Text: strings.Repeat("x", 101)}}, deliver(999), {Kind: impl.StDrop, Id: 999},
	}
	for _, p := range c.Net.Packets {
		list = append(list, deliver(p.Id), impl.Step{Kind: impl.StDeliver, Id: p.Id, Keep: true}, impl.Step{Kind: impl.StDrop, Id: p.Id})
	}
	return list
}

func TestClusterAnswersAreTheirOwn(t *testing.T) {
	busy := busyCluster(t)
	wrong := copyCluster(busy)
	wrong.Machines[2].Done = -1
	alone := newCluster(t, 1, 1)
	for what, given := range map[string]impl.Cluster{"a busy one": busy, "a wrong one": wrong, "one alone": alone, "one alone that leads": play(t, alone, at(impl.StStart, 1)), "nothing": {}} {
		c := roomyCluster(given)
		parts := partsOfCluster("the argument", c)
		steps := manySteps(given)
		for _, a := range steps {
			checkOwn(t, fmt.Sprintf("Play of %+v of %s", a, what), parts, func() clusterAnswer {
				next, code := impl.Play(c, a)
				return clusterAnswer{next, code}
			})
		}
		for n := range 4 {
			list := roomy(steps[:min(n*n*n, len(steps))], impl.Step{Kind: 97})
			all := append(partsOfCluster("the argument", c), partOf("the steps", list, impl.Step{Kind: -9}))
			checkOwn(t, fmt.Sprint("PlayAll of ", n, " of ", what), all, func() clusterAnswer {
				next, count := impl.PlayAll(c, list)
				return clusterAnswer{next, count}
			})
		}
		checkOwn(t, "ClusterOk of "+what, parts, func() clusterAnswer {
			impl.ClusterOk(c)
			return clusterAnswer{}
		})
	}
	for n := range int64(9) {
		checkOwn(t, fmt.Sprint("ClusterNew of ", n), nil, func() clusterAnswer {
			c, _ := impl.ClusterNew(n, max(n-1, 1), 50)
			return clusterAnswer{cluster: c}
		})
	}
}

func TestClusterAtTheSameTime(t *testing.T) {
	c := roomyCluster(busyCluster(t))
	steps := manySteps(c)
	first := make([]clusterAnswer, len(steps))
	for i, a := range steps {
		next, code := impl.Play(c, a)
		first[i] = clusterAnswer{next, code}
	}
	all, count := impl.PlayAll(c, steps)
	text := impl.MsgText(aMsg())
	var crew sync.WaitGroup
	for worker := range 8 {
		crew.Go(func() {
			for n := range steps {
				i := (n*5 + worker) % len(steps)
				next, code := impl.Play(c, steps[i])
				if a := (clusterAnswer{next, code}); !a.same(first[i]) {
					t.Errorf("%+v: another answer at the same time", steps[i])
				}
				if m, ok := impl.ReadMsg(text); !ok || impl.MsgText(m) != text {
					t.Error("another message at the same time")
				}
			}
			if next, n := impl.PlayAll(c, steps); n != count || !sameCluster(next, all) {
				t.Error("PlayAll: another answer at the same time")
			}
		})
	}
	crew.Wait()
}

func TestClusterOfOddArguments(t *testing.T) {
	c := ledCluster(t, 3, 3)
	long := strings.Repeat("x", 300000)
	for kind := int64(-1); kind <= 11; kind++ {
		for _, number := range []int64{math.MinInt64, math.MaxInt64, -1, 1} {
			a := impl.Step{Kind: kind, At: number, Id: number, Op: number, Keep: true, Cmd: impl.Cmd{Session: number, Serial: number, Op: number, Repo: long, Tag: long, Digest: long, Text: long}}
			checkPlayed(t, fmt.Sprintf("Kind %d, all else %d", kind, number), c, a, func() int64 { _, code := slowPlay(c, a); return code }())
		}
	}
	huge := impl.Cluster{Machines: make([]impl.Machine, 10000), Leaders: make([]impl.Lead, 10000), Chosen: make([]impl.Entry, 10000)}
	checkClusterOk(t, "huge", huge, false)
	if got, count := impl.PlayAll(c, make([]impl.Step, 100000)); count != -1 || !isZeroCluster(got) {
		t.Error(count)
	}
}
