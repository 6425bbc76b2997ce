package tests

import (
	"fmt"
	"math"
	"math/rand/v2"
	"slices"
	"strings"
	"testing"

	"loop.example/g00141/impl"
)

// oddNumbers are the ones at which limits are passed.
var oddNumbers = []int64{math.MinInt64, -1, 0, 1, 50, 51, impl.MaxNumber - 500, impl.MaxNumber - 499, impl.MaxNumber, impl.MaxNumber + 1, math.MaxInt64 - 1, math.MaxInt64}

func pick[T any](r *rand.Rand, list ...T) T {
	return list[r.IntN(len(list))]
}

func rightRandomConf(r *rand.Rand) impl.Conf {
	for {
		if c := randomConf(r, 5); slowConfOk(c) {
			return c
		}
	}
}

func randomEntry(r *rand.Rand, term int64) impl.Entry {
	switch r.IntN(8) {
	case 0:
		return impl.Entry{Term: term}
	case 1:
		return confEntry(term, rawConfText(rightRandomConf(r)))
	}
	return impl.Entry{Term: term, Kind: impl.EnCommand, Body: pick(r, "", "a", "b", "v 1")}
}

func randomLog(r *rand.Rand, n int, term int64) []impl.Entry {
	term = max(term, 1)
	var log []impl.Entry
	for range n {
		if r.IntN(3) == 0 {
			term++
		}
		log = append(log, randomEntry(r, term))
	}
	return log
}

// randomRightNode is of one of the roles, with few terms and members, so that messages often fit it.
func randomRightNode(r *rand.Rand) impl.Node {
	n := impl.Node{Id: 1 + r.Int64N(5), BaseConf: rightRandomConf(r), BaseTerm: r.Int64N(3), Base: pick(r, 0, 0, 1, 7, int64(impl.MaxNumber-500)), BaseState: pick(r, "", "state")}
	n.Log = randomLog(r, r.IntN(12), n.BaseTerm)
	if r.IntN(12) == 0 {
		n.Log = slices.Repeat([]impl.Entry{{Term: max(n.BaseTerm, 1), Kind: 1}}, 495+r.IntN(6))
	}
	last, lastTerm := slowLast(n)
	n.Term = lastTerm + r.Int64N(2)
	n.Commit = n.Base + r.Int64N(last-n.Base+1)
	n.Vote = r.Int64N(6)
	if n.Leader = r.Int64N(6); n.Leader == n.Id {
		n.Leader = 0
	}
	n.Role = r.Int64N(3)
	if n.Role != impl.RoFollower {
		n.Vote, n.Term = n.Id, max(n.Term, 1)
	}
	switch n.Role {
	case impl.RoCandidate:
		for id := int64(1); id <= 5; id++ {
			if id == n.Id || r.IntN(4) == 0 {
				n.Votes = append(n.Votes, id)
			}
		}
	case impl.RoLeader:
		n.Leader = n.Id
		for _, id := range slowOthers(n) {
			next := max(1, last+1-r.Int64N(min(last+1, 14)))
			n.Peers = append(n.Peers, impl.Peer{Id: id, Next: next, Match: pick(r, 0, next-1, r.Int64N(next))})
		}
	}
	return n
}

// spoil changes one thing of a node, so that it mostly is not right any more.
func spoil(r *rand.Rand, n *impl.Node) {
	number := pick(r, oddNumbers...)
	if r.IntN(2) == 0 {
		number = r.Int64N(8)
	}
	switch r.IntN(14) {
	case 0:
		n.Id = number
	case 1:
		n.Term = number
	case 2:
		n.Vote = number
	case 3:
		n.Base = number
	case 4:
		n.BaseTerm = number
	case 5:
		n.Commit = number
	case 6:
		n.Role = number
	case 7:
		n.Leader = number
	case 8:
		n.Votes = append(n.Votes, number)
	case 9:
		n.Peers = append(n.Peers, impl.Peer{Id: number, Next: 1})
	case 10:
		n.BaseConf = randomConf(r, 5)
	case 11:
		n.BaseState = strings.Repeat("s", 19999+r.IntN(3))
	case 12:
		if len(n.Log) > 0 {
			e := &n.Log[r.IntN(len(n.Log))]
			*pick(r, &e.Term, &e.Kind) = number
		}
	case 13:
		if len(n.Peers) > 0 {
			p := &n.Peers[r.IntN(len(n.Peers))]
			*pick(r, &p.Id, &p.Next, &p.Match) = number
		}
	}
}

func randomMsg(r *rand.Rand, n impl.Node) impl.Msg {
	last, _ := slowLast(n)
	m := impl.Msg{Kind: 1 + r.Int64N(5), From: 1 + r.Int64N(5), To: n.Id, Ok: r.IntN(2) == 0, Text: pick(r, "", "text"), Conf: randomConf(r, 5)}
	m.Term = n.Term + pick[int64](r, 0, 0, 0, 0, 1, -1)
	m.Index = last + 2 - r.Int64N(min(last-n.Base, 12)+4)
	m.LogTerm = r.Int64N(6)
	if m.Index >= n.Base && m.Index <= last && r.IntN(4) > 0 {
		m.LogTerm = slowTermAt(n, m.Index)
	}
	m.Commit = last + 2 - r.Int64N(6)
	if m.Kind == impl.MsAppend {
		m.Entries = randomLog(r, r.IntN(9), m.LogTerm)
	}
	for i := range m.Entries {
		if at := m.Index + 1 + int64(i); at > n.Base && at <= last && r.IntN(4) > 0 {
			m.Entries[i].Term = slowTermAt(n, at)
		} else {
			m.Entries[i].Term = min(m.Entries[i].Term, max(m.Term, 1))
		}
	}
	if r.IntN(6) == 0 {
		*pick(r, &m.Kind, &m.From, &m.To, &m.Term, &m.Index, &m.LogTerm, &m.Commit) = pick(r, append(oddNumbers, r.Int64N(8))...)
	}
	if r.IntN(12) == 0 {
		m.Entries = append(m.Entries, impl.Entry{Term: r.Int64N(7), Kind: r.Int64N(4), Body: pick(r, "", "x", "v 1", strings.Repeat("x", 4001))})
	}
	return m
}

// checkPromise: the term does not fall, what is agreed on stays, and there is no second vote in a term.
func checkPromise(t *testing.T, before, after impl.Node, sent []impl.Msg) {
	t.Helper()
	if !impl.NodeOk(after) {
		t.Fatalf("not right any more: %+v\n%+v", before, after)
	}
	if after.Id != before.Id || after.Term < before.Term || after.Commit < before.Commit || after.Base < before.Base {
		t.Fatalf("it falls: %+v\n%+v", before, after)
	}
	for index := after.Base + 1; index <= before.Commit; index++ {
		if after.Log[index-after.Base-1] != before.Log[index-before.Base-1] {
			t.Fatalf("what was agreed on at %d is another one: %+v\n%+v", index, before, after)
		}
	}
	if after.Term == before.Term && before.Vote != 0 && after.Vote != before.Vote {
		t.Fatalf("a second vote: %+v\n%+v", before, after)
	}
	for _, m := range sent {
		if m.From != after.Id || m.Term != after.Term || m.Kind == impl.MsVoted && m.Ok && after.Vote != m.To {
			t.Fatalf("a vote that it has not given: %+v\n%+v", after, m)
		}
	}
}

func TestRaftAgainstTheSlowWay(t *testing.T) {
	r := rand.New(rand.NewPCG(10, 10))
	seen := map[string]int{}
	for range 12000 {
		n := randomRightNode(r)
		if !impl.NodeOk(n) {
			t.Fatalf("not right: %+v", n)
		}
		if r.IntN(4) == 0 {
			spoil(r, &n)
		}
		if got := impl.NodeOk(n); got != slowNodeOk(n) {
			t.Fatalf("%v: %+v", got, n)
		}
		compareAsked(t, n)
		for range 4 {
			m := randomMsg(r, n)
			got, sent := impl.Receive(n, m)
			want, wantSent := slowReceive(n, m)
			if !sameNode(got, want) || !sameMsgs(sent, wantSent) {
				t.Fatalf("%+v gets\n%+v: the node\n%+v, not\n%+v; sent\n%+v, not\n%+v", n, m, got, want, sent, wantSent)
			}
			if slowNodeOk(n) {
				checkPromise(t, n, got, sent)
				seen[whatHappened(n, got, m, sent)]++
			}
		}
		compareProposed(t, r, n, seen)
	}
	for _, what := range []string{
		"1 to 0: false", "1 to 0: true", "1 to 1: false", "1 to 2: false", "2 to 1: becomes leader", "2 to 1: nothing", "2 to 1: changed", "3 to 0: true", "3 to 0: false", "3 to 0: nothing", "3 to 0: changed", "3 to 1: true", "3 to 2: nothing",
		"4 to 2: changed", "4 to 2: nothing", "4 to 2: sent 3", "4 to 2: sent 5", "5 to 0: true", "5 to 0: false", "5 to 0: changed", "5 to 1: true", "5 to 2: nothing",
		"code 0", "code 1", "code 2", "code 3", "code 4", "code 5", "conf code 0",
	} {
		if seen[what] == 0 {
			t.Errorf("%s has not come about", what)
		}
	}
}

func whatHappened(n, got impl.Node, m impl.Msg, sent []impl.Msg) string {
	what := "nothing"
	switch {
	case got.Role == impl.RoLeader && n.Role != impl.RoLeader:
		what = "becomes leader"
	case len(sent) == 1 && (sent[0].Kind == impl.MsVoted || sent[0].Kind == impl.MsAppended):
		what = fmt.Sprint(sent[0].Ok)
	case len(sent) == 1:
		what = fmt.Sprint("sent ", sent[0].Kind)
	case !sameNode(n, got):
		what = "changed"
	}
	return fmt.Sprint(m.Kind, " to ", n.Role, ": ", what)
}

// compareAsked holds all that is asked of a node alone against the slow way.
func compareAsked(t *testing.T, n impl.Node) {
	t.Helper()
	got, sent := impl.Start(n)
	want, wantSent := slowStart(n)
	if !sameNode(got, want) || !sameMsgs(sent, wantSent) {
		t.Fatalf("Start of %+v: the node\n%+v, not\n%+v; sent\n%+v, not\n%+v", n, got, want, sent, wantSent)
	}
	if slowNodeOk(n) {
		checkPromise(t, n, got, sent)
	}
	if sent, wantSent := impl.Beat(n), slowBeat(n); !sameMsgs(sent, wantSent) {
		t.Fatalf("Beat of %+v: %+v, not %+v", n, sent, wantSent)
	}
	conf, last, lastTerm := impl.Conf{}, int64(-1), int64(-1)
	if slowNodeOk(n) {
		conf = slowConfNow(n)
		last, lastTerm = slowLast(n)
	}
	if got := impl.ConfNow(n); !sameConf(got, conf) {
		t.Fatalf("ConfNow of %+v: %+v", n, got)
	}
	if index, term := impl.LastOf(n); index != last || term != lastTerm {
		t.Fatalf("LastOf of %+v: %d, %d", n, index, term)
	}
	if got := impl.Agreed(n); !slices.Equal(got, slowAgreed(n)) {
		t.Fatalf("Agreed of %+v: %+v", n, got)
	}
}

func compareProposed(t *testing.T, r *rand.Rand, n impl.Node, seen map[string]int) {
	t.Helper()
	kind, body := r.Int64N(4), pick(r, "", "x", rawConfText(randomConf(r, 5)), strings.Repeat("x", 4000+r.IntN(2)))
	if next, code := slowChanged(slowConfNow(n), 1+r.Int64N(3), 1+r.Int64N(6)); code == impl.CnOk && r.IntN(2) == 0 {
		kind, body = impl.EnConf, slowConfText(next)
	}
	got, index, code := impl.Propose(n, kind, body)
	want, wantIndex, wantCode := slowPropose(n, kind, body)
	if !sameNode(got, want) || index != wantIndex || code != wantCode {
		t.Fatalf("Propose of %d %q by %+v: %+v, %d, %d, not %+v, %d, %d", kind, body, n, got, index, code, want, wantIndex, wantCode)
	}
	if code != impl.PpNode {
		checkPromise(t, n, got, nil)
	}
	seen[fmt.Sprint("code ", code)]++
	if kind == impl.EnConf {
		seen[fmt.Sprint("conf code ", code)]++
	}
}

// A pond is some nodes and the messages between them, some of which are lost, come twice, or late.
type pond struct {
	t       *testing.T
	r       *rand.Rand
	nodes   []impl.Node
	under   []impl.Msg
	chosen  map[int64]impl.Entry
	leaders map[int64]int64
	seen    map[string]int
}

func newPond(t *testing.T, r *rand.Rand, n int64, voters int64, seen map[string]int) *pond {
	p := &pond{t: t, r: r, chosen: map[int64]impl.Entry{}, leaders: map[int64]int64{}, seen: seen}
	for id := range n {
		node, ok := impl.NodeNew(id+1, impl.Conf{Voters: countUp(1, voters)})
		if !ok {
			t.Fatal("no node")
		}
		p.nodes = append(p.nodes, node)
	}
	return p
}

// settle takes what a node has come to, and looks whether all of them still agree.
func (p *pond) settle(at int, next impl.Node, sent []impl.Msg) {
	p.t.Helper()
	before := p.nodes[at]
	checkPromise(p.t, before, next, sent)
	if next.Role == impl.RoLeader {
		if old, there := p.leaders[next.Term]; there && old != next.Id {
			p.t.Fatalf("two leaders of term %d: %d and %d", next.Term, old, next.Id)
		}
		p.leaders[next.Term] = next.Id
	}
	for i, e := range impl.Agreed(next) {
		index := next.Base + 1 + int64(i)
		if old, there := p.chosen[index]; there && old != e {
			p.t.Fatalf("at %d both %+v and %+v are agreed on", index, old, e)
		}
		p.chosen[index] = e
		if e.Kind == impl.EnConf {
			p.seen["a conf agreed on"]++
		}
	}
	if next.Base > before.Base {
		p.seen["a snapshot taken"]++
	}
	p.nodes[at] = next
	p.under = append(p.under, sent...)
}

func (p *pond) deliver() {
	if len(p.under) == 0 {
		return
	}
	at := p.r.IntN(len(p.under))
	m := p.under[at]
	if p.r.IntN(10) > 0 {
		p.under = slices.Delete(p.under, at, at+1)
	}
	if p.r.IntN(12) == 0 || m.To > int64(len(p.nodes)) {
		return
	}
	next, sent := impl.Receive(p.nodes[m.To-1], m)
	p.settle(int(m.To-1), next, sent)
}

// compact leaves out some of what a node has agreed on.
func (p *pond) compact(at int) {
	n := p.nodes[at]
	if n.Commit == n.Base {
		return
	}
	upto := pick(p.r, n.Commit, n.Base+1+p.r.Int64N(n.Commit-n.Base))
	checkCompact(p.t, "a node that talks", n, upto, fmt.Sprint("state ", upto))
	p.nodes[at], _ = impl.Compact(n, upto, fmt.Sprint("state ", upto))
}

func (p *pond) propose(at int) {
	n := p.nodes[at]
	kind, body := int64(impl.EnCommand), fmt.Sprint("x", p.r.IntN(1000))
	if p.r.IntN(3) == 0 {
		if next, code := impl.Changed(impl.ConfNow(n), 1+p.r.Int64N(3), 1+p.r.Int64N(int64(len(p.nodes)))); code == impl.CnOk {
			kind, body = impl.EnConf, impl.ConfText(next)
		}
	}
	next, index, code := impl.Propose(n, kind, body)
	if code != impl.PpOk {
		return
	}
	if last, _ := impl.LastOf(next); last != index || next.Log[len(next.Log)-1].Body != body {
		p.t.Fatalf("not its last entry: %+v", next)
	}
	p.settle(at, next, impl.Beat(next))
}

func (p *pond) step() {
	at := p.r.IntN(len(p.nodes))
	switch p.r.IntN(24) {
	case 0:
		next, sent := impl.Start(p.nodes[at])
		p.settle(at, next, sent)
	case 1, 2:
		p.settle(at, p.nodes[at], impl.Beat(p.nodes[at]))
	case 3, 4, 5:
		p.propose(at)
	case 6:
		if p.r.IntN(3) == 0 {
			p.compact(at)
		}
	default:
		p.deliver()
	}
	if len(p.under) > 60 {
		p.under = slices.Delete(p.under, 0, 20)
	}
}

// checkLogs: where two logs have an entry with one index and one Term, all up to there are the same.
func (p *pond) checkLogs() {
	for _, a := range p.nodes {
		for _, b := range p.nodes {
			last, _ := impl.LastOf(a)
			other, _ := impl.LastOf(b)
			same := false
			for index := min(last, other); index > max(a.Base, b.Base); index-- {
				one, two := a.Log[index-a.Base-1], b.Log[index-b.Base-1]
				same = same || one.Term == two.Term
				if same && one != two {
					p.t.Fatalf("unlike entries at %d: %+v and %+v", index, one, two)
				}
			}
		}
	}
}

func TestNodesThatTalkAgree(t *testing.T) {
	seen := map[string]int{}
	for seed := range uint64(30) {
		r := rand.New(rand.NewPCG(10, seed))
		n := 1 + r.Int64N(5)
		p := newPond(t, r, n, 1+r.Int64N(n), seen)
		for range 1200 {
			p.step()
		}
		p.checkLogs()
		seen["agreed on"] += len(p.chosen)
		seen["leaders"] += len(p.leaders)
	}
	for what, least := range map[string]int{"agreed on": 500, "leaders": 100, "a conf agreed on": 20, "a snapshot taken": 20} {
		if seen[what] < least {
			t.Errorf("%s: only %d", what, seen[what])
		}
	}
}

func roomyNode(n impl.Node) impl.Node {
	n.BaseConf = roomyConf(n.BaseConf)
	n.Log, n.Votes, n.Peers = roomy(n.Log, impl.Entry{Term: 97, Body: "spare"}), roomy(n.Votes, 97), roomy(n.Peers, impl.Peer{Id: 97})
	return n
}

func roomyMsg(m impl.Msg) impl.Msg {
	m.Entries, m.Conf = roomy(m.Entries, impl.Entry{Term: 96, Body: "spare"}), roomyConf(m.Conf)
	return m
}

func partsOfNode(what string, n impl.Node) []part {
	return []part{
		partOf(what+"'s Voters", n.BaseConf.Voters, -9), partOf(what+"'s Learners", n.BaseConf.Learners, -8), partOf(what+"'s Log", n.Log, impl.Entry{Term: -7}),
		partOf(what+"'s Votes", n.Votes, -6), partOf(what+"'s Peers", n.Peers, impl.Peer{Id: -5}),
	}
}

func partsOfMsg(what string, m impl.Msg) []part {
	return []part{partOf(what+"'s Entries", m.Entries, impl.Entry{Term: -4}), partOf(what+"'s Voters", m.Conf.Voters, -3), partOf(what+"'s Learners", m.Conf.Learners, -2)}
}

// A raftAnswer is what one of the calls answered, whatever it is.
type raftAnswer struct {
	node    impl.Node
	sent    []impl.Msg
	entries []impl.Entry
	conf    impl.Conf
}

func (a raftAnswer) parts() []part {
	parts := append(partsOfNode("the answer", a.node), partOf("the entries", a.entries, impl.Entry{Term: -1}), partOf("the conf's Voters", a.conf.Voters, -11), partOf("the conf's Learners", a.conf.Learners, -12))
	for i, m := range a.sent {
		parts = append(parts, partsOfMsg(fmt.Sprint("message ", i), m)...)
	}
	return parts
}

func (a raftAnswer) clone() raftAnswer {
	return raftAnswer{copyNode(a.node), copyMsgs(a.sent), slices.Clone(a.entries), copyConf(a.conf)}
}

func (a raftAnswer) same(b raftAnswer) bool {
	return sameNode(a.node, b.node) && sameMsgs(a.sent, b.sent) && slices.Equal(a.entries, b.entries) && sameConf(a.conf, b.conf)
}

func TestRaftAnswersAreTheirOwn(t *testing.T) {
	nodes := rightNodes()
	for what, n := range wrongNodes() {
		nodes[what] = n
	}
	nodes["a leader that may change"] = with(aLeader(), func(n *impl.Node) { n.Commit = 14 })
	nodes["a leader of two peers to be restored"] = with(aLeader(), func(n *impl.Node) { n.Peers[0], n.Peers[1] = impl.Peer{Id: 1, Next: 1}, impl.Peer{Id: 3, Next: 10} })
	nodes["a leader of peers with one end"] = with(aLeader(), func(n *impl.Node) { n.Peers[0], n.Peers[1] = impl.Peer{Id: 1, Next: 12}, impl.Peer{Id: 3, Next: 12} })
	for what, n := range nodes {
		argument := roomyNode(n)
		parts := partsOfNode("the argument", argument)
		for name, call := range map[string]func() raftAnswer{
			"NodeOk":              func() raftAnswer { impl.NodeOk(argument); return raftAnswer{} },
			"LastOf":              func() raftAnswer { impl.LastOf(argument); return raftAnswer{} },
			"NodeNew":             func() raftAnswer { m, _ := impl.NodeNew(3, argument.BaseConf); return raftAnswer{node: m} },
			"ConfNow":             func() raftAnswer { return raftAnswer{conf: impl.ConfNow(argument)} },
			"Start":               func() raftAnswer { m, sent := impl.Start(argument); return raftAnswer{node: m, sent: sent} },
			"Beat":                func() raftAnswer { return raftAnswer{sent: impl.Beat(argument)} },
			"Agreed":              func() raftAnswer { return raftAnswer{entries: impl.Agreed(argument)} },
			"Propose":             func() raftAnswer { m, _, _ := impl.Propose(argument, 1, "x"); return raftAnswer{node: m} },
			"Propose of members":  func() raftAnswer { m, _, _ := impl.Propose(argument, 2, "v 1 2 3"); return raftAnswer{node: m} },
			"Propose of no kind":  func() raftAnswer { m, _, _ := impl.Propose(argument, 9, "x"); return raftAnswer{node: m} },
			"Propose of far ones": func() raftAnswer { m, _, _ := impl.Propose(argument, 2, "v 50"); return raftAnswer{node: m} },
		} {
			checkOwn(t, name+" of "+what, parts, call)
		}
		for change, m := range messagesFor(n) {
			msg := roomyMsg(m)
			both := append(partsOfMsg("the message", msg), parts...)
			checkOwn(t, "Receive of "+change+" by "+what, both, func() raftAnswer {
				next, sent := impl.Receive(argument, msg)
				return raftAnswer{node: next, sent: sent}
			})
		}
	}
}

// messagesFor are of each kind, some of which a node takes.
func messagesFor(n impl.Node) map[string]impl.Msg {
	msgs := map[string]impl.Msg{}
	for kind := range int64(7) {
		for term := n.Term - 1; term <= n.Term+1; term++ {
			msgs[fmt.Sprint("kind ", kind, " in term ", term)] = messageTo(n, kind, term)
		}
	}
	last, lastTerm := slowLast(n)
	append14 := impl.Msg{Kind: impl.MsAppend, From: 3, To: n.Id, Term: n.Term, Index: last, LogTerm: lastTerm, Commit: last}
	msgs["no entries"] = append14
	append14.Entries = []impl.Entry{{Term: n.Term}, {Term: n.Term, Kind: 1, Body: "x"}}
	msgs["entries behind the last"] = append14
	append14.Index, append14.LogTerm, append14.Entries = 12, 3, otherLog(4, 4, 4)
	msgs["entries in place of others"] = append14
	append14.Entries = otherLog(3, 5, 4)
	msgs["entries that fall"] = append14
	msgs["a snapshot in the midst"] = impl.Msg{Kind: impl.MsSnap, From: 3, To: n.Id, Term: n.Term, Index: 13, LogTerm: 3, Text: "t", Conf: confOf([]int64{1, 2}, []int64{3})}
	msgs["a snapshot with no conf"] = impl.Msg{Kind: impl.MsSnap, From: 3, To: n.Id, Term: n.Term, Index: 13, LogTerm: 3}
	msgs["what was not appended"] = impl.Msg{Kind: impl.MsAppended, From: 3, To: n.Id, Term: n.Term, Index: 11}
	msgs["what was not appended at all"] = impl.Msg{Kind: impl.MsAppended, From: 3, To: n.Id, Term: n.Term}
	return msgs
}
