package tests

import (
	"fmt"
	"math"
	"slices"
	"strings"
	"testing"

	"loop.example/g00141/impl"
)

// logOf are commands of these terms, each with a body of its own.
func logOf(terms ...int64) []impl.Entry {
	var log []impl.Entry
	for i, term := range terms {
		log = append(log, impl.Entry{Term: term, Kind: impl.EnCommand, Body: fmt.Sprint("c", i+1)})
	}
	return log
}

// otherLog are commands of these terms with other bodies than those of logOf.
func otherLog(terms ...int64) []impl.Entry {
	log := logOf(terms...)
	for i := range log {
		log[i].Body = "other " + log[i].Body
	}
	return log
}

func longLog(n int, term int64) []impl.Entry {
	return logOf(slices.Repeat([]int64{term}, n)...)
}

func confEntry(term int64, text string) impl.Entry {
	return impl.Entry{Term: term, Kind: impl.EnConf, Body: text}
}

// aFollower has the node 1 for its leader; its entries have the indexes 11 .. 14, of which 11 and 12 are agreed on.
func aFollower() impl.Node {
	return impl.Node{
		Id: 2, Term: 5, Vote: 3, Base: 10, BaseTerm: 2, BaseConf: confOf([]int64{1, 2, 3}, []int64{4}), BaseState: "state",
		Log: logOf(2, 3, 3, 5), Commit: 12, Leader: 1,
	}
}

func aCandidate() impl.Node {
	n := aFollower()
	n.Role, n.Vote, n.Leader, n.Votes = impl.RoCandidate, 2, 0, []int64{2}
	return n
}

// aLeader knows that the node 1 has the entries up to 12, and of the others nothing.
func aLeader() impl.Node {
	n := aFollower()
	n.Role, n.Vote, n.Leader = impl.RoLeader, 2, 2
	n.Peers = []impl.Peer{{Id: 1, Next: 13, Match: 12}, {Id: 3, Next: 15, Match: 0}, {Id: 4, Next: 10, Match: 0}}
	return n
}

// youngNode is a follower of three voters that has nothing.
func youngNode() impl.Node {
	return impl.Node{Id: 2, BaseConf: voters(1, 2, 3)}
}

// leaderAlone is the only voter, and has agreed with itself on all.
func leaderAlone() impl.Node {
	return impl.Node{Id: 1, Term: 2, Vote: 1, BaseConf: voters(1), Log: logOf(1, 2), Commit: 2, Role: impl.RoLeader, Leader: 1}
}

// with is a node with something changed.
func with(n impl.Node, changes ...func(*impl.Node)) impl.Node {
	n = copyNode(n)
	for _, change := range changes {
		change(&n)
	}
	return n
}

func rightNodes() map[string]impl.Node {
	nodes := map[string]impl.Node{
		"a follower": aFollower(), "a candidate": aCandidate(), "a leader": aLeader(), "a young node": youngNode(), "a leader alone": leaderAlone(),
	}
	nodes["a follower with a full log"] = with(aFollower(), func(n *impl.Node) { n.Log = longLog(500, 4) })
	nodes["a candidate with a full log"] = with(aCandidate(), func(n *impl.Node) { n.Log = longLog(500, 4) })
	nodes["a leader with a full log"] = with(aLeader(), func(n *impl.Node) { n.Log = longLog(500, 5) })
	nodes["a follower at the end of terms"] = with(aFollower(), func(n *impl.Node) { n.Term = impl.MaxNumber })
	nodes["a follower at the end of indexes"] = with(aFollower(), func(n *impl.Node) { n.Base, n.Commit = impl.MaxNumber-500, impl.MaxNumber-499 })
	nodes["a follower with a conf"] = with(aFollower(), func(n *impl.Node) { n.Log[1] = confEntry(3, "v 2 3") })
	nodes["a leader with a conf"] = with(aLeader(), func(n *impl.Node) {
		n.Log[3] = confEntry(5, "v 2 3 l 9")
		n.Peers = []impl.Peer{{Id: 3, Next: 15, Match: 12}, {Id: 9, Next: 1, Match: 0}}
	})
	nodes["a leader that goes"] = with(aLeader(), func(n *impl.Node) {
		n.Log[3] = confEntry(5, "v 1 3 l 4")
	})
	nodes["a learner"] = with(youngNode(), func(n *impl.Node) { n.BaseConf = confOf([]int64{1, 3}, []int64{2}) })
	nodes["a stranger"] = with(youngNode(), func(n *impl.Node) { n.BaseConf = voters(1, 3) })
	nodes["a candidate without votes"] = with(aCandidate(), func(n *impl.Node) { n.Votes = nil })
	nodes["a candidate with many votes"] = with(aCandidate(), func(n *impl.Node) { n.Votes = countUp(1, 50) })
	return nodes
}

// wrongNodes are ones that are not right, each for one cause.
func wrongNodes() map[string]impl.Node {
	return map[string]impl.Node{
		"nothing":                {},
		"no Id":                  with(aFollower(), func(n *impl.Node) { n.Id = 0 }),
		"no Conf":                with(aLeader(), func(n *impl.Node) { n.BaseConf = impl.Conf{} }),
		"a wrong Conf":           with(aFollower(), func(n *impl.Node) { n.BaseConf.Learners[0] = 1 }),
		"a Term below":           with(aLeader(), func(n *impl.Node) { n.Term = 4 }),
		"Terms that fall":        with(aLeader(), func(n *impl.Node) { n.Log[0].Term = 4 }),
		"a wrong kind":           with(aFollower(), func(n *impl.Node) { n.Log[0].Kind = 3 }),
		"501 entries":            with(aFollower(), func(n *impl.Node) { n.Log = longLog(501, 4) }),
		"a Commit too great":     with(aLeader(), func(n *impl.Node) { n.Commit = 15 }),
		"a Commit below Base":    with(aCandidate(), func(n *impl.Node) { n.Commit = 9 }),
		"no role":                with(aFollower(), func(n *impl.Node) { n.Role = 3 }),
		"a peer missing":         with(aLeader(), func(n *impl.Node) { n.Peers = n.Peers[:2] }),
		"a Next too great":       with(aLeader(), func(n *impl.Node) { n.Peers[0].Next = 16 }),
		"votes that fall":        with(aCandidate(), func(n *impl.Node) { n.Votes = []int64{2, 1} }),
		"its own follower":       with(aFollower(), func(n *impl.Node) { n.Leader = 2 }),
		"a leader that voted":    with(aLeader(), func(n *impl.Node) { n.Vote = 1 }),
		"a follower with votes":  with(aFollower(), func(n *impl.Node) { n.Votes = []int64{2} }),
		"a follower with peers":  with(aFollower(), func(n *impl.Node) { n.Peers = aLeader().Peers }),
		"a state that is long":   with(aFollower(), func(n *impl.Node) { n.BaseState = strings.Repeat("x", 20001) }),
		"a Base that is too far": with(youngNode(), func(n *impl.Node) { n.Base, n.Commit = impl.MaxNumber-499, impl.MaxNumber-499 }),
	}
}

func checkNodeOk(t *testing.T, what string, want bool, n impl.Node) {
	t.Helper()
	if got := impl.NodeOk(n); got != want {
		t.Errorf("%s: %v", what, got)
	}
	if slowNodeOk(n) != want {
		t.Errorf("%s: the slow way says something else", what)
	}
}

func TestNodeOk(t *testing.T) {
	for what, n := range rightNodes() {
		checkNodeOk(t, what, true, n)
	}
	for what, n := range wrongNodes() {
		checkNodeOk(t, what, false, n)
	}
}

func TestNodeOkOfNumbers(t *testing.T) {
	for id, right := range nodeNumbers {
		checkNodeOk(t, fmt.Sprint("Id ", id), right, with(youngNode(), func(n *impl.Node) { n.Id = id }))
	}
	const most = impl.MaxNumber
	for _, r := range []struct {
		what   string
		from   impl.Node
		field  func(*impl.Node) *int64
		wanted map[int64]bool
	}{
		{"Term", youngNode(), func(n *impl.Node) *int64 { return &n.Term }, map[int64]bool{-1: false, 0: true, 1: true, most: true, most + 1: false}},
		{"Term of a log", aFollower(), func(n *impl.Node) *int64 { return &n.Term }, map[int64]bool{-1: false, 0: false, 4: false, 5: true, 6: true, most: true, most + 1: false}},
		{"Vote", aFollower(), func(n *impl.Node) *int64 { return &n.Vote }, map[int64]bool{-1: false, 0: true, 1: true, 2: true, 51: true, most: true, most + 1: false}},
		{"Leader", aFollower(), func(n *impl.Node) *int64 { return &n.Leader }, map[int64]bool{-1: false, 0: true, 1: true, 2: false, 3: true, 51: true, most: true, most + 1: false}},
		{"Leader of a candidate", aCandidate(), func(n *impl.Node) *int64 { return &n.Leader }, map[int64]bool{-1: false, 0: true, 1: true, 2: true, most: true, most + 1: false}},
		{"Leader of a leader", aLeader(), func(n *impl.Node) *int64 { return &n.Leader }, map[int64]bool{-1: false, 0: false, 1: false, 2: true, 3: false}},
		{"BaseTerm", aFollower(), func(n *impl.Node) *int64 { return &n.BaseTerm }, map[int64]bool{-1: false, 0: true, 1: true, 2: true, 3: false, 5: false}},
		{"BaseTerm with no log", with(aFollower(), func(n *impl.Node) { n.Log, n.Commit = nil, 10 }), func(n *impl.Node) *int64 { return &n.BaseTerm }, map[int64]bool{-1: false, 0: true, 5: true, 6: false}},
		{"BaseTerm at the end", with(aFollower(), func(n *impl.Node) { n.Log, n.Commit, n.Term = nil, 10, most }), func(n *impl.Node) *int64 { return &n.BaseTerm }, map[int64]bool{most: true, most + 1: false}},
		{"Commit", aFollower(), func(n *impl.Node) *int64 { return &n.Commit }, map[int64]bool{-1: false, 0: false, 9: false, 10: true, 11: true, 14: true, 15: false}},
		{"Commit with no log", youngNode(), func(n *impl.Node) *int64 { return &n.Commit }, map[int64]bool{-1: false, 0: true, 1: false}},
		{"Role", aFollower(), func(n *impl.Node) *int64 { return &n.Role }, map[int64]bool{-1: false, 0: true, 1: false, 2: false, 3: false}},
		{"Role of a candidate", aCandidate(), func(n *impl.Node) *int64 { return &n.Role }, map[int64]bool{-1: false, 0: false, 1: true, 2: false, 3: false}},
		{"Role of a leader", aLeader(), func(n *impl.Node) *int64 { return &n.Role }, map[int64]bool{-1: false, 0: false, 1: false, 2: true, 3: false}},
		{"Role of a leader alone", leaderAlone(), func(n *impl.Node) *int64 { return &n.Role }, map[int64]bool{0: false, 1: true, 2: true, 3: false}},
		{"Vote of a candidate", aCandidate(), func(n *impl.Node) *int64 { return &n.Vote }, map[int64]bool{-1: false, 0: false, 1: false, 2: true, 3: false}},
		{"Vote of a leader", aLeader(), func(n *impl.Node) *int64 { return &n.Vote }, map[int64]bool{-1: false, 0: false, 1: false, 2: true, 3: false}},
	} {
		r.wanted[math.MinInt64], r.wanted[math.MaxInt64] = false, false
		for number, want := range r.wanted {
			n := copyNode(r.from)
			*r.field(&n) = number
			checkNodeOk(t, fmt.Sprint(r.what, " ", number), want, n)
		}
	}
	for base, want := range map[int64]bool{-1: false, 0: true, 1: true, most - 501: true, most - 500: true, most - 499: false, most: false, most + 1: false, math.MinInt64: false, math.MaxInt64: false} {
		checkNodeOk(t, fmt.Sprint("Base ", base), want, with(youngNode(), func(n *impl.Node) { n.Base, n.Commit = base, base }))
		checkNodeOk(t, fmt.Sprint("Base with a full log ", base), want, with(aFollower(), func(n *impl.Node) { n.Log, n.Base, n.Commit = longLog(500, 5), base, base }))
	}
	terms := map[string]func(*impl.Node){"a Term of 0": func(n *impl.Node) { n.Term, n.BaseTerm, n.Log, n.Commit, n.Peers = 0, 0, nil, 10, nil }, "a Term of 1": func(n *impl.Node) { n.Term, n.BaseTerm, n.Log, n.Commit = 1, 0, nil, 10 }}
	checkNodeOk(t, "a candidate with a Term of 0", false, with(aCandidate(), terms["a Term of 0"]))
	checkNodeOk(t, "a candidate with a Term of 1", true, with(aCandidate(), terms["a Term of 1"]))
	alone := with(leaderAlone(), func(n *impl.Node) { n.Log, n.Commit = nil, 0 })
	checkNodeOk(t, "a leader with a Term of 1", true, with(alone, func(n *impl.Node) { n.Term = 1 }))
	checkNodeOk(t, "a leader with a Term of 0", false, with(alone, func(n *impl.Node) { n.Term = 0 }))
}

func TestNodeOkOfLogs(t *testing.T) {
	long := strings.Repeat("x", 4000)
	for _, r := range []struct {
		what string
		log  []impl.Entry
		want bool
	}{
		{"no entries", nil, true},
		{"terms from BaseTerm to Term", logOf(2, 2, 3, 4, 5, 5), true},
		{"a term below BaseTerm", logOf(1, 2, 3), false},
		{"a term above Term", logOf(2, 3, 6), false},
		{"the first above Term", logOf(6), false},
		{"a term that falls", logOf(2, 4, 3, 5), false},
		{"a term that falls at the end", logOf(2, 4, 5, 4), false},
		{"a term of 0", logOf(0), false},
		{"a term of -1", logOf(2, -1), false},
		{"499 entries", longLog(499, 4), true},
		{"500 entries", longLog(500, 4), true},
		{"501 entries", longLog(501, 4), false},
		{"the 500th with a wrong kind", append(longLog(499, 4), impl.Entry{Term: 4, Kind: 3}), false},
		{"nothing to do", []impl.Entry{{Term: 3}}, true},
		{"nothing to do with a body", []impl.Entry{{Term: 3, Body: "x"}}, false},
		{"an empty command", []impl.Entry{{Term: 3, Kind: 1}}, true},
		{"a command of any bytes", []impl.Entry{{Term: 3, Kind: 1, Body: "\x00\xffv 1"}}, true},
		{"a long command", []impl.Entry{{Term: 3, Kind: 1, Body: long}}, true},
		{"a command that is too long", []impl.Entry{{Term: 3, Kind: 1, Body: long + "x"}}, false},
		{"a conf", []impl.Entry{confEntry(3, "v 1 2 3 l 4")}, true},
		{"a conf with no text", []impl.Entry{confEntry(3, "")}, false},
		{"a conf that is none", []impl.Entry{confEntry(3, "v 2 1")}, false},
		{"a conf with a blank behind", []impl.Entry{confEntry(3, "v 1 ")}, false},
		{"a conf with eight voters", []impl.Entry{confEntry(3, "v 1 2 3 4 5 6 7 8")}, false},
		{"two confs", []impl.Entry{confEntry(3, "v 1"), confEntry(3, "v 2")}, true},
		{"two confs, the first wrong", []impl.Entry{confEntry(3, "v 0"), confEntry(3, "v 2")}, false},
		{"kind -1", []impl.Entry{{Term: 3, Kind: -1}}, false},
		{"kind 3", []impl.Entry{{Term: 3, Kind: 3}}, false},
		{"kind 9", []impl.Entry{{Term: 3, Kind: 9}}, false},
		{"kind 9 behind others", append(logOf(2, 3), impl.Entry{Term: 3, Kind: 9}), false},
		{"a great kind", []impl.Entry{{Term: 3, Kind: 1<<32 + 1}}, false},
	} {
		checkNodeOk(t, r.what, r.want, with(aFollower(), func(n *impl.Node) { n.Log, n.Commit = r.log, 10 }))
		checkNodeOk(t, r.what+" of a candidate", r.want, with(aCandidate(), func(n *impl.Node) { n.Log, n.Commit = r.log, 10 }))
	}
	checkNodeOk(t, "a term of 0 with a BaseTerm of 0", false, with(youngNode(), func(n *impl.Node) { n.Log = logOf(0) }))
	end := func(n *impl.Node) { n.Term, n.Log = impl.MaxNumber, logOf(impl.MaxNumber) }
	checkNodeOk(t, "the last term", true, with(youngNode(), end))
	for what, c := range wrongConfs() {
		checkNodeOk(t, what+" for BaseConf", false, with(youngNode(), func(n *impl.Node) { n.BaseConf = c }))
		checkNodeOk(t, what+" for BaseConf, a right one in Log", false, with(aFollower(), func(n *impl.Node) { n.BaseConf, n.Log[0] = c, confEntry(2, "v 1") }))
	}
	for what, c := range rightConfs() {
		checkNodeOk(t, what+" for BaseConf", true, with(youngNode(), func(n *impl.Node) { n.BaseConf = c }))
	}
	for size, want := range map[int]bool{0: true, 1: true, 20000: true, 20001: false} {
		checkNodeOk(t, fmt.Sprint("a BaseState of ", size), want, with(aFollower(), func(n *impl.Node) { n.BaseState = strings.Repeat("s", size) }))
	}
}

func TestNodeOkOfVotes(t *testing.T) {
	for _, r := range []struct {
		votes []int64
		want  bool
	}{
		{nil, true}, {[]int64{2}, true}, {[]int64{1}, true}, {[]int64{1, 2, 3}, true}, {[]int64{1, 50}, true}, {[]int64{9, 10}, true},
		{[]int64{0, 2}, false}, {[]int64{-1, 2}, false}, {[]int64{2, 51}, false}, {[]int64{51}, false}, {[]int64{0}, false}, {[]int64{2, 1}, false},
		{[]int64{2, 2}, false}, {[]int64{1, 3, 2}, false}, {[]int64{1, 2, 1}, false}, {[]int64{66}, false}, {[]int64{math.MaxInt64}, false}, {countUp(1, 50), true}, {countUp(1, 51), false},
	} {
		checkNodeOk(t, fmt.Sprint("the Votes ", r.votes), r.want, with(aCandidate(), func(n *impl.Node) { n.Votes = r.votes }))
		none := len(r.votes) == 0
		checkNodeOk(t, fmt.Sprint("the Votes of a follower ", r.votes), none, with(aFollower(), func(n *impl.Node) { n.Votes = r.votes }))
		checkNodeOk(t, fmt.Sprint("the Votes of a leader ", r.votes), none, with(aLeader(), func(n *impl.Node) { n.Votes = r.votes }))
	}
}

func TestNodeOkOfPeers(t *testing.T) {
	for at := range 3 {
		for _, r := range []struct {
			next, match int64
			want        bool
		}{
			{1, 0, true}, {0, 0, false}, {0, -1, false}, {-1, -2, false}, {1, 1, false}, {1, -1, false}, {15, 14, true}, {15, 0, true}, {15, 15, false}, {16, 0, false}, {16, 15, false},
			{10, 9, true}, {11, 10, true}, {11, 11, false}, {12, 13, false}, {5, math.MinInt64, false}, {math.MaxInt64, 1, false}, {math.MaxInt64, math.MaxInt64 - 1, false}, {math.MinInt64, 0, false},
		} {
			checkNodeOk(t, fmt.Sprintf("peer %d with Next %d and Match %d", at, r.next, r.match), r.want, with(aLeader(), func(n *impl.Node) { n.Peers[at].Next, n.Peers[at].Match = r.next, r.match }))
		}
	}
	peers := func(ids ...int64) func(*impl.Node) {
		return func(n *impl.Node) {
			n.Peers = nil
			for _, id := range ids {
				n.Peers = append(n.Peers, impl.Peer{Id: id, Next: 1})
			}
		}
	}
	conf := func(text string) func(*impl.Node) {
		return func(n *impl.Node) { n.Log[3] = confEntry(5, text) }
	}
	for _, r := range []struct {
		what    string
		want    bool
		changes []func(*impl.Node)
	}{
		{"as told", true, []func(*impl.Node){peers(1, 3, 4)}},
		{"none", false, []func(*impl.Node){peers()}},
		{"one missing", false, []func(*impl.Node){peers(1, 3)}},
		{"the first missing", false, []func(*impl.Node){peers(3, 4)}},
		{"itself too", false, []func(*impl.Node){peers(1, 2, 3, 4)}},
		{"itself for another one", false, []func(*impl.Node){peers(1, 2, 4)}},
		{"a stranger too", false, []func(*impl.Node){peers(1, 3, 4, 5)}},
		{"a stranger for another one", false, []func(*impl.Node){peers(1, 3, 5)}},
		{"not by Id", false, []func(*impl.Node){peers(3, 1, 4)}},
		{"learners ahead", false, []func(*impl.Node){peers(4, 1, 3)}},
		{"one twice", false, []func(*impl.Node){peers(1, 1, 3, 4)}},
		{"one twice for another one", false, []func(*impl.Node){peers(1, 3, 3)}},
		{"of a conf in Log", true, []func(*impl.Node){conf("v 2 9"), peers(9)}},
		{"of BaseConf with a conf in Log", false, []func(*impl.Node){conf("v 2 9"), peers(1, 3, 4)}},
		{"a learner between voters", true, []func(*impl.Node){conf("v 1 2 9 l 5"), peers(1, 5, 9)}},
		{"a learner between voters, behind them", false, []func(*impl.Node){conf("v 1 2 9 l 5"), peers(1, 9, 5)}},
		{"alone", true, []func(*impl.Node){conf("v 2"), peers()}},
		{"alone, and one", false, []func(*impl.Node){conf("v 2"), peers(1)}},
		{"a leader that is no member", true, []func(*impl.Node){conf("v 1 3"), peers(1, 3)}},
		{"a leader that is no member, and itself", false, []func(*impl.Node){conf("v 1 3"), peers(1, 2, 3)}},
		{"a leader that learns", true, []func(*impl.Node){conf("v 1 3 l 2 4"), peers(1, 3, 4)}},
	} {
		checkNodeOk(t, r.what, r.want, with(aLeader(), r.changes...))
	}
	old := with(aLeader(), func(n *impl.Node) { n.Log[0], n.Log[2] = confEntry(2, "v 2 7"), confEntry(3, "v 2 8") }, peers(8))
	checkNodeOk(t, "of the last of two confs", true, old)
	checkNodeOk(t, "of the first of two confs", false, with(old, peers(7)))
	checkNodeOk(t, "a follower with Peers", false, with(aFollower(), peers(1, 3, 4)))
	checkNodeOk(t, "a candidate with Peers", false, with(aCandidate(), peers(1, 3, 4)))
	great := with(leaderAlone(), func(n *impl.Node) { n.BaseConf = confOf(countUp(1, 7), countUp(10, 7)) })
	checkNodeOk(t, "thirteen peers", true, with(great, peers(2, 3, 4, 5, 6, 7, 10, 11, 12, 13, 14, 15, 16)))
}

func TestNodeNew(t *testing.T) {
	c := confOf([]int64{1, 2, 3}, []int64{4})
	for id, right := range nodeNumbers {
		n, ok := impl.NodeNew(id, c)
		want := impl.Node{}
		if right {
			want = impl.Node{Id: id, BaseConf: c}
		}
		if ok != right || !sameNode(n, want) {
			t.Errorf("%d: %+v, %v", id, n, ok)
		}
	}
	for what, c := range rightConfs() {
		if n, ok := impl.NodeNew(7, c); !ok || !sameNode(n, impl.Node{Id: 7, BaseConf: c}) || !impl.NodeOk(n) {
			t.Errorf("%s: %+v, %v", what, n, ok)
		}
	}
	for what, c := range wrongConfs() {
		for _, id := range []int64{0, 1, 50, 51} {
			if n, ok := impl.NodeNew(id, c); ok || !isZeroNode(n) {
				t.Errorf("%s, %d: %+v, %v", what, id, n, ok)
			}
		}
	}
}

func TestConfNowAndLastOf(t *testing.T) {
	for _, r := range []struct {
		what       string
		n          impl.Node
		conf       impl.Conf
		last, term int64
	}{
		{"a young node", youngNode(), voters(1, 2, 3), 0, 0},
		{"an empty log behind a Base", with(aFollower(), func(n *impl.Node) { n.Log, n.Commit = nil, 10 }), aFollower().BaseConf, 10, 2},
		{"no conf in the log", aFollower(), aFollower().BaseConf, 14, 5},
		{"one entry", with(aFollower(), func(n *impl.Node) { n.Log, n.Commit = logOf(3), 10 }), aFollower().BaseConf, 11, 3},
		{"a conf that is agreed on", with(aFollower(), func(n *impl.Node) { n.Log[0] = confEntry(2, "v 7") }), voters(7), 14, 5},
		{"a conf that is not agreed on", with(aFollower(), func(n *impl.Node) { n.Log[3] = confEntry(5, "v 2 l 9") }), confOf([]int64{2}, []int64{9}), 14, 5},
		{"two confs, one agreed on", with(aFollower(), func(n *impl.Node) { n.Log[0], n.Log[3] = confEntry(2, "v 7"), confEntry(5, "v 8") }), voters(8), 14, 5},
		{"two confs, both agreed on", with(aFollower(), func(n *impl.Node) { n.Log[0], n.Log[1] = confEntry(2, "v 7"), confEntry(3, "v 8") }), voters(8), 14, 5},
		{"two confs, none agreed on", with(aFollower(), func(n *impl.Node) { n.Log[2], n.Log[3] = confEntry(3, "v 7"), confEntry(5, "v 8") }), voters(8), 14, 5},
		{"a command with a conf's text", with(aFollower(), func(n *impl.Node) { n.Log[3].Body = "v 7" }), aFollower().BaseConf, 14, 5},
		{"a full log", with(aFollower(), func(n *impl.Node) { n.Log = longLog(500, 4) }), aFollower().BaseConf, 510, 4},
	} {
		if got := impl.ConfNow(r.n); !sameConf(got, r.conf) {
			t.Errorf("%s: %+v", r.what, got)
		}
		if last, term := impl.LastOf(r.n); last != r.last || term != r.term {
			t.Errorf("%s: %d, %d", r.what, last, term)
		}
	}
}

func TestNodesThatAreNotRight(t *testing.T) {
	for what, n := range wrongNodes() {
		if c := impl.ConfNow(n); !isZeroConf(c) {
			t.Errorf("%s, ConfNow: %+v", what, c)
		}
		if last, term := impl.LastOf(n); last != -1 || term != -1 {
			t.Errorf("%s, LastOf: %d, %d", what, last, term)
		}
		if got, sent := impl.Start(n); !isZeroNode(got) || len(sent) != 0 {
			t.Errorf("%s, Start: %+v, %+v", what, got, sent)
		}
		if sent := impl.Beat(n); len(sent) != 0 {
			t.Errorf("%s, Beat: %+v", what, sent)
		}
		for kind := range int64(7) {
			for _, term := range []int64{-1, 0, 5, 9} {
				m := impl.Msg{Kind: kind, From: 1, To: n.Id, Term: term, Index: 11, LogTerm: 2, Ok: true, Conf: voters(1)}
				if got, sent := impl.Receive(n, m); !isZeroNode(got) || len(sent) != 0 {
					t.Errorf("%s, Receive: %+v, %+v", what, got, sent)
				}
			}
			for _, body := range []string{"", "x", "v 1 2 3"} {
				if got, index, code := impl.Propose(n, kind, body); !isZeroNode(got) || index != 0 || code != impl.PpNode {
					t.Errorf("%s, Propose: %+v, %d, %d", what, got, index, code)
				}
			}
		}
		if list := impl.Agreed(n); len(list) != 0 {
			t.Errorf("%s, Agreed: %+v", what, list)
		}
	}
}

func TestAgreed(t *testing.T) {
	for commit := int64(10); commit <= 14; commit++ {
		for what, n := range map[string]impl.Node{"a follower": aFollower(), "a candidate": aCandidate(), "a leader": aLeader()} {
			n.Commit = commit
			if got := impl.Agreed(n); !slices.Equal(got, n.Log[:commit-10]) {
				t.Errorf("%s with Commit %d: %+v", what, commit, got)
			}
		}
	}
	if got := impl.Agreed(youngNode()); len(got) != 0 {
		t.Error(got)
	}
	full := with(aFollower(), func(n *impl.Node) { n.Log, n.Commit = longLog(500, 4), 510 })
	if got := impl.Agreed(full); !slices.Equal(got, full.Log) {
		t.Error(len(got))
	}
}

// checkStep holds what a call answered against what the document asks.
func checkStep(t *testing.T, what string, got impl.Node, sent []impl.Msg, want impl.Node, wantSent ...impl.Msg) {
	t.Helper()
	if !sameNode(got, want) {
		t.Errorf("%s: the node\n%+v, not\n%+v", what, got, want)
	}
	if !sameMsgs(sent, wantSent) {
		t.Errorf("%s: sent\n%+v, not\n%+v", what, sent, wantSent)
	}
	if !impl.NodeOk(got) {
		t.Errorf("%s: the node is not right any more", what)
	}
}

func TestStart(t *testing.T) {
	stands := func(term int64) func(*impl.Node) {
		return func(n *impl.Node) {
			n.Term, n.Vote, n.Role, n.Leader, n.Votes = term, n.Id, impl.RoCandidate, 0, []int64{n.Id}
		}
	}
	asks := func(to, term, index, logTerm int64) impl.Msg {
		return impl.Msg{Kind: impl.MsVote, From: 2, To: to, Term: term, Index: index, LogTerm: logTerm}
	}
	for _, r := range []struct {
		what    string
		n, want impl.Node
		sent    []impl.Msg
	}{
		{"a young node", youngNode(), with(youngNode(), stands(1)), []impl.Msg{asks(1, 1, 0, 0), asks(3, 1, 0, 0)}},
		{"a follower", aFollower(), with(aFollower(), stands(6)), []impl.Msg{asks(1, 6, 14, 5), asks(3, 6, 14, 5)}},
		{"a candidate", aCandidate(), with(aCandidate(), stands(6)), []impl.Msg{asks(1, 6, 14, 5), asks(3, 6, 14, 5)}},
		{"a candidate with votes", with(aCandidate(), func(n *impl.Node) { n.Votes = []int64{1, 2, 3}; n.Leader = 3 }), with(aCandidate(), stands(6)), []impl.Msg{asks(1, 6, 14, 5), asks(3, 6, 14, 5)}},
		{"an empty log", with(aFollower(), func(n *impl.Node) { n.Log, n.Commit = nil, 10 }), with(aFollower(), func(n *impl.Node) { n.Log, n.Commit = nil, 10 }, stands(6)), []impl.Msg{asks(1, 6, 10, 2), asks(3, 6, 10, 2)}},
		{"the last term but one", with(youngNode(), func(n *impl.Node) { n.Term = impl.MaxNumber - 1 }), with(youngNode(), stands(impl.MaxNumber)), []impl.Msg{asks(1, impl.MaxNumber, 0, 0), asks(3, impl.MaxNumber, 0, 0)}},
		{"one of two", with(youngNode(), func(n *impl.Node) { n.BaseConf = voters(2, 50) }), with(youngNode(), func(n *impl.Node) { n.BaseConf = voters(2, 50) }, stands(1)), []impl.Msg{asks(50, 1, 0, 0)}},
		{"a full log", with(aFollower(), func(n *impl.Node) { n.Log = longLog(500, 4) }), with(aFollower(), func(n *impl.Node) { n.Log = longLog(500, 4) }, stands(6)), []impl.Msg{asks(1, 6, 510, 4), asks(3, 6, 510, 4)}},
		{"voters of a conf that is not agreed on", with(aFollower(), func(n *impl.Node) { n.Log[3] = confEntry(5, "v 2 7 8 l 1") }), with(aFollower(), func(n *impl.Node) { n.Log[3] = confEntry(5, "v 2 7 8 l 1") }, stands(6)), []impl.Msg{asks(7, 6, 14, 5), asks(8, 6, 14, 5)}},

		{"a leader", aLeader(), aLeader(), nil},
		{"a leader alone", leaderAlone(), leaderAlone(), nil},
		{"a stranger", with(youngNode(), func(n *impl.Node) { n.Id = 9 }), with(youngNode(), func(n *impl.Node) { n.Id = 9 }), nil},
		{"a learner", with(aFollower(), func(n *impl.Node) { n.Id = 4 }), with(aFollower(), func(n *impl.Node) { n.Id = 4 }), nil},
		{"one that goes", with(aFollower(), func(n *impl.Node) { n.Log[3] = confEntry(5, "v 1 3") }), with(aFollower(), func(n *impl.Node) { n.Log[3] = confEntry(5, "v 1 3") }), nil},
		{"a candidate that goes", with(aCandidate(), func(n *impl.Node) { n.Log[3] = confEntry(5, "v 1 3") }), with(aCandidate(), func(n *impl.Node) { n.Log[3] = confEntry(5, "v 1 3") }), nil},
		{"the last term", with(aFollower(), func(n *impl.Node) { n.Term = impl.MaxNumber }), with(aFollower(), func(n *impl.Node) { n.Term = impl.MaxNumber }), nil},
		{"the last term alone", with(youngNode(), func(n *impl.Node) { n.BaseConf, n.Term = voters(2), impl.MaxNumber }), with(youngNode(), func(n *impl.Node) { n.BaseConf, n.Term = voters(2), impl.MaxNumber }), nil},
	} {
		got, sent := impl.Start(r.n)
		checkStep(t, r.what, got, sent, r.want, r.sent...)
	}
}

func TestStartAlone(t *testing.T) {
	leads := func(n *impl.Node) {
		n.Term, n.Vote, n.Role, n.Leader = n.Term+1, n.Id, impl.RoLeader, n.Id
	}
	alone := with(youngNode(), func(n *impl.Node) { n.BaseConf = voters(2) })
	got, sent := impl.Start(alone)
	checkStep(t, "alone", got, sent, with(alone, leads, func(n *impl.Node) { n.Log, n.Commit = []impl.Entry{{Term: 1}}, 1 }))

	old := with(aFollower(), func(n *impl.Node) { n.BaseConf = voters(2) })
	got, sent = impl.Start(old)
	checkStep(t, "alone with a log", got, sent, with(old, leads, func(n *impl.Node) { n.Log, n.Commit = append(n.Log, impl.Entry{Term: 6}), 15 }))

	full := with(old, func(n *impl.Node) { n.Log = longLog(500, 4) })
	got, sent = impl.Start(full)
	checkStep(t, "alone with a full log", got, sent, with(full, leads))

	nearly := with(old, func(n *impl.Node) { n.Log = longLog(499, 4) })
	got, sent = impl.Start(nearly)
	checkStep(t, "alone with a log that is full then", got, sent, with(nearly, leads, func(n *impl.Node) { n.Log, n.Commit = append(n.Log, impl.Entry{Term: 6}), 510 }))

	taught := with(aFollower(), func(n *impl.Node) { n.BaseConf = confOf([]int64{2}, []int64{1, 9}) })
	got, sent = impl.Start(taught)
	then := with(taught, leads, func(n *impl.Node) {
		n.Log, n.Commit = append(n.Log, impl.Entry{Term: 6}), 15
		n.Peers = []impl.Peer{{Id: 1, Next: 15}, {Id: 9, Next: 15}}
	})
	beat := impl.Msg{Kind: impl.MsAppend, From: 2, To: 1, Term: 6, Index: 14, LogTerm: 5, Entries: []impl.Entry{{Term: 6}}, Commit: 15}
	other := copyMsg(beat)
	other.To = 9
	checkStep(t, "the only voter with learners", got, sent, then, beat, other)
}

func TestBeat(t *testing.T) {
	n := with(aLeader(), func(n *impl.Node) {
		n.Log = append(n.Log, otherLog(5, 5, 5, 5, 5, 5, 5, 5)...) // the indexes 11 .. 22
	})
	for _, r := range []struct {
		next, index, term int64
		from, to          int
	}{
		{11, 10, 2, 0, 8}, {12, 11, 2, 1, 9}, {13, 12, 3, 2, 10}, {14, 13, 3, 3, 11}, {15, 14, 5, 4, 12}, {16, 15, 5, 5, 12}, {22, 21, 5, 11, 12}, {23, 22, 5, 12, 12},
	} {
		n.Peers[1].Next = r.next
		sent := impl.Beat(n)
		want := impl.Msg{Kind: impl.MsAppend, From: 2, To: 3, Term: 5, Index: r.index, LogTerm: r.term, Entries: n.Log[r.from:r.to], Commit: 12}
		if len(sent) != 3 || !sameMsg(sent[1], want) {
			t.Errorf("Next %d: %+v", r.next, sent)
		}
	}
	snap := impl.Msg{Kind: impl.MsSnap, From: 2, To: 3, Term: 5, Index: 10, LogTerm: 2, Text: "state", Conf: n.BaseConf}
	for _, next := range []int64{1, 2, 9, 10} {
		n.Peers[1].Next = next
		if sent := impl.Beat(n); len(sent) != 3 || !sameMsg(sent[1], snap) {
			t.Errorf("Next %d: %+v", next, sent)
		}
	}
	sent := impl.Beat(aLeader())
	first := impl.Msg{Kind: impl.MsAppend, From: 2, To: 1, Term: 5, Index: 12, LogTerm: 3, Entries: aLeader().Log[2:], Commit: 12}
	second := impl.Msg{Kind: impl.MsAppend, From: 2, To: 3, Term: 5, Index: 14, LogTerm: 5, Commit: 12}
	third := snap
	third.To = 4
	if !sameMsgs(sent, []impl.Msg{first, second, third}) {
		t.Errorf("%+v", sent)
	}
	conf := with(aLeader(), func(n *impl.Node) {
		n.Log[3] = confEntry(5, "v 2 l 9")
		n.Peers = []impl.Peer{{Id: 9, Next: 3}}
	})
	if sent := impl.Beat(conf); len(sent) != 1 || sent[0].To != 9 || !sameConf(sent[0].Conf, aLeader().BaseConf) {
		t.Errorf("with a conf: %+v", sent)
	}
	for what, n := range map[string]impl.Node{"a follower": aFollower(), "a candidate": aCandidate(), "a young node": youngNode(), "a leader alone": leaderAlone()} {
		if sent := impl.Beat(n); len(sent) != 0 {
			t.Errorf("%s: %+v", what, sent)
		}
	}
}

// messageTo is one of each kind that the nodes above would take from the node 3.
func messageTo(n impl.Node, kind, term int64) impl.Msg {
	m := impl.Msg{Kind: kind, From: 3, To: n.Id, Term: term}
	switch kind {
	case impl.MsVote:
		m.Index, m.LogTerm = 999, 9
	case impl.MsVoted:
		m.Ok = true
	case impl.MsAppend:
		m.Index, m.LogTerm, m.Entries, m.Commit = 14, 5, []impl.Entry{{Term: 5, Kind: 1, Body: "new"}}, 15
	case impl.MsAppended:
		m.Index, m.Ok = 14, true
	case impl.MsSnap:
		m.Index, m.LogTerm, m.Conf, m.Text = 20, 5, voters(1, 2), "new"
	}
	return m
}

func TestReceiveOfNothing(t *testing.T) {
	nodes := map[string]impl.Node{"a follower": aFollower(), "a candidate": aCandidate(), "a leader": aLeader()}
	long := strings.Repeat("x", 4000)
	for what, n := range nodes {
		for kind := int64(1); kind <= 5; kind++ {
			for _, term := range []int64{4, 5, 6} {
				for change, m := range map[string]func(*impl.Msg){
					"for another":         func(m *impl.Msg) { m.To = 1 },
					"for nobody":          func(m *impl.Msg) { m.To = 0 },
					"for 2 and 64":        func(m *impl.Msg) { m.To = 66 },
					"from itself":         func(m *impl.Msg) { m.From = 2 },
					"from 0":              func(m *impl.Msg) { m.From = 0 },
					"from -1":             func(m *impl.Msg) { m.From = -1 },
					"from 51":             func(m *impl.Msg) { m.From = 51 },
					"from 67":             func(m *impl.Msg) { m.From = 67 },
					"a Term of -1":        func(m *impl.Msg) { m.Term = -1 },
					"a Term too great":    func(m *impl.Msg) { m.Term = impl.MaxNumber + 1 },
					"the greatest number": func(m *impl.Msg) { m.Term = math.MaxInt64 },
					"kind 0":              func(m *impl.Msg) { m.Kind = 0 },
					"kind -1":             func(m *impl.Msg) { m.Kind = -1 },
					"kind 6":              func(m *impl.Msg) { m.Kind = 6 },
					"a great kind":        func(m *impl.Msg) { m.Kind = 1<<32 + 1 },
					"9 entries":           func(m *impl.Msg) { m.Entries = longLog(9, 5) },
					"kind 3 in it":        func(m *impl.Msg) { m.Entries = []impl.Entry{{Term: 5, Kind: 3}} },
					"kind -1 in it":       func(m *impl.Msg) { m.Entries = []impl.Entry{{Term: 5, Kind: -1}} },
					"kind 9 at the end":   func(m *impl.Msg) { m.Entries = append(logOf(5, 5), impl.Entry{Term: 5, Kind: 9}) },
					"a body of nothing":   func(m *impl.Msg) { m.Entries = []impl.Entry{{Term: 5, Body: "x"}} },
					"a long command":      func(m *impl.Msg) { m.Entries = []impl.Entry{{Term: 5, Kind: 1, Body: long + "x"}} },
					"no conf":             func(m *impl.Msg) { m.Entries = []impl.Entry{confEntry(5, "v 2 1")} },
					"an empty conf":       func(m *impl.Msg) { m.Entries = append(logOf(5), confEntry(5, "")) },
					"a term of 0":         func(m *impl.Msg) { m.Entries = logOf(0) },
					"a term too great":    func(m *impl.Msg) { m.Entries = logOf(impl.MaxNumber + 1) },
				} {
					msg := messageTo(n, kind, term)
					m(&msg)
					got, sent := impl.Receive(n, msg)
					checkStep(t, fmt.Sprint(what, ", kind ", kind, ", term ", term, ", ", change), got, sent, n)
				}
			}
		}
	}
}

func TestReceiveOfLimitsThatAreMet(t *testing.T) {
	n := with(aFollower(), func(n *impl.Node) { n.Term = 5 })
	m := messageTo(n, impl.MsAppend, 5)
	m.Entries = longLog(8, 5)
	m.Entries[0].Body = strings.Repeat("x", 4000)
	got, sent := impl.Receive(n, m)
	checkStep(t, "8 entries", got, sent, with(n, func(n *impl.Node) { n.Log, n.Leader, n.Commit = append(n.Log, m.Entries...), 3, 15 }),
		impl.Msg{Kind: impl.MsAppended, From: 2, To: 3, Term: 5, Ok: true, Index: 22})

	m = messageTo(n, impl.MsVote, impl.MaxNumber)
	for _, from := range []int64{1, 50} {
		m.From = from
		got, sent = impl.Receive(n, m)
		checkStep(t, fmt.Sprint("the last term, from ", from), got, sent, with(n, func(n *impl.Node) { n.Term, n.Vote, n.Leader = impl.MaxNumber, from, 0 }),
			impl.Msg{Kind: impl.MsVoted, From: 2, To: from, Term: impl.MaxNumber, Ok: true})
	}
	young := youngNode()
	m = impl.Msg{Kind: impl.MsVote, From: 1, To: 2}
	got, sent = impl.Receive(young, m)
	checkStep(t, "term 0", got, sent, with(young, func(n *impl.Node) { n.Vote = 1 }), impl.Msg{Kind: impl.MsVoted, From: 2, To: 1, Ok: true})
}

// TestReceiveOfTerms has each kind of message meet each role, with a Term below, at and above that of the node.
func TestReceiveOfTerms(t *testing.T) {
	follows := func(term, leader int64) func(*impl.Node) {
		return func(n *impl.Node) {
			if term > n.Term {
				n.Term, n.Vote = term, 0
			}
			n.Role, n.Leader, n.Votes, n.Peers = impl.RoFollower, leader, nil, nil
		}
	}
	appends := func(n *impl.Node) {
		n.Log, n.Commit = append(n.Log, impl.Entry{Term: 5, Kind: 1, Body: "new"}), 15
	}
	snaps := func(n *impl.Node) {
		n.Base, n.BaseTerm, n.BaseConf, n.BaseState, n.Log, n.Commit = 20, 5, voters(1, 2), "new", nil, 20
	}
	refused := func(term int64) impl.Msg {
		return impl.Msg{Kind: impl.MsVoted, From: 2, To: 3, Term: term}
	}
	voted := impl.Msg{Kind: impl.MsVoted, From: 2, To: 3, Term: 6, Ok: true}
	behind := impl.Msg{Kind: impl.MsAppended, From: 2, To: 3, Term: 5, Index: 14}
	done := func(term, index int64) impl.Msg {
		return impl.Msg{Kind: impl.MsAppended, From: 2, To: 3, Term: term, Ok: true, Index: index}
	}
	roles := []impl.Node{aFollower(), aCandidate(), aLeader()}
	for role, n := range roles {
		check := func(what string, kind, term int64, want impl.Node, sent ...impl.Msg) {
			t.Helper()
			got, out := impl.Receive(n, messageTo(n, kind, term))
			checkStep(t, fmt.Sprint(what, ", kind ", kind, ", term ", term, ", role ", role), got, out, want, sent...)
		}
		for _, term := range []int64{0, 1, 4} {
			check("below", impl.MsVote, term, n, refused(5))
			check("below", impl.MsVoted, term, n)
			check("below", impl.MsAppend, term, n, behind)
			check("below", impl.MsAppended, term, n)
			check("below", impl.MsSnap, term, n, behind)
		}
		check("above", impl.MsVote, 6, with(n, follows(6, 0), func(n *impl.Node) { n.Vote = 3 }), voted)
		check("above", impl.MsVoted, 6, with(n, follows(6, 0)))
		check("above", impl.MsAppend, 6, with(n, follows(6, 3), appends), done(6, 15))
		check("above", impl.MsAppended, 6, with(n, follows(6, 0)))
		check("above", impl.MsSnap, 6, with(n, follows(6, 3), snaps), done(6, 20))
	}
	at := func(what string, n impl.Node, kind int64, want impl.Node, sent ...impl.Msg) {
		t.Helper()
		got, out := impl.Receive(n, messageTo(n, kind, 5))
		checkStep(t, fmt.Sprint(what, ", kind ", kind), got, out, want, sent...)
	}
	for _, n := range roles[:2] {
		at("at", n, impl.MsAppend, with(n, follows(5, 3), appends), done(5, 15))
		at("at", n, impl.MsSnap, with(n, follows(5, 3), snaps), done(5, 20))
		at("at", n, impl.MsAppended, n)
	}
	at("a follower that voted for 3", aFollower(), impl.MsVote, aFollower(), impl.Msg{Kind: impl.MsVoted, From: 2, To: 3, Term: 5, Ok: true})
	at("a follower", aFollower(), impl.MsVoted, aFollower())
	at("a candidate", aCandidate(), impl.MsVote, aCandidate(), refused(5))
	at("a leader", aLeader(), impl.MsVote, aLeader(), refused(5))
	at("a leader", aLeader(), impl.MsVoted, aLeader())
	at("a leader", aLeader(), impl.MsAppend, aLeader())
	at("a leader", aLeader(), impl.MsSnap, aLeader())
	at("a leader", aLeader(), impl.MsAppended, with(aLeader(), func(n *impl.Node) { n.Peers[1].Match, n.Commit = 14, 14 }))
}

func TestVote(t *testing.T) {
	free := with(aFollower(), func(n *impl.Node) { n.Vote = 0 })
	for _, r := range []struct {
		what           string
		n              impl.Node
		from           int64
		index, logTerm int64
		ok             bool
	}{
		{"no vote yet, the same end", free, 3, 14, 5, true},
		{"no vote yet, for its leader", free, 1, 14, 5, true},
		{"a vote for the same one", aFollower(), 3, 14, 5, true},
		{"a vote for another one", aFollower(), 1, 14, 5, false},
		{"a vote for another one, a better end", aFollower(), 1, 999, 5, false},
		{"a vote for its own", with(aFollower(), func(n *impl.Node) { n.Vote = 2 }), 3, 14, 5, false},
		{"a vote for no node", with(aFollower(), func(n *impl.Node) { n.Vote = 60 }), 3, 14, 5, false},
		{"an index below", free, 3, 13, 5, false},
		{"an index above", free, 3, 15, 5, true},
		{"an index far above", free, 3, math.MaxInt64, 5, true},
		{"a term below", free, 3, 14, 4, false},
		{"a term below, an index above", free, 3, 999, 4, false},
		{"a term above, an index below", free, 3, 1, 6, true},
		{"a term above, no index", free, 3, math.MinInt64, math.MaxInt64, true},
		{"a term above, the same index", free, 3, 14, 6, true},
		{"a term that is none", free, 3, 14, -1, false},
		{"the least term", free, 3, math.MaxInt64, math.MinInt64, false},
		{"the same one, an index below", aFollower(), 3, 13, 5, false},
		{"the same one, a term below", aFollower(), 3, 14, 4, false},
		{"a stranger", free, 50, 14, 5, true},
		{"a learner asks", free, 4, 14, 5, true},
		{"asked as a stranger", with(free, func(n *impl.Node) { n.Id = 9 }), 3, 14, 5, true},
		{"asked as a learner", with(free, func(n *impl.Node) { n.Id = 4 }), 3, 14, 5, true},
		{"an empty log, its end", with(free, func(n *impl.Node) { n.Log, n.Commit = nil, 10 }), 3, 10, 2, true},
		{"an empty log, an index below", with(free, func(n *impl.Node) { n.Log, n.Commit = nil, 10 }), 3, 9, 2, false},
		{"an empty log, a term below", with(free, func(n *impl.Node) { n.Log, n.Commit = nil, 10 }), 3, 10, 1, false},
		{"an empty log, a term above", with(free, func(n *impl.Node) { n.Log, n.Commit = nil, 10 }), 3, 1, 3, true},
		{"a candidate", aCandidate(), 3, 99, 9, false},
		{"a leader", aLeader(), 3, 99, 9, false},
	} {
		m := impl.Msg{Kind: impl.MsVote, From: r.from, To: r.n.Id, Term: 5, Index: r.index, LogTerm: r.logTerm}
		want := copyNode(r.n)
		if r.ok {
			want.Vote = r.from
		}
		answer := impl.Msg{Kind: impl.MsVoted, From: r.n.Id, To: r.from, Term: 5, Ok: r.ok}
		got, sent := impl.Receive(r.n, m)
		checkStep(t, r.what, got, sent, want, answer)

		m.Term, want.Term, want.Vote, want.Role, want.Leader, want.Votes, want.Peers = 6, 6, 0, impl.RoFollower, 0, nil, nil
		answer.Term = 6
		last, lastTerm := slowLast(r.n)
		if answer.Ok = r.logTerm > lastTerm || r.logTerm == lastTerm && r.index >= last; answer.Ok {
			want.Vote = r.from
		}
		got, sent = impl.Receive(r.n, m)
		checkStep(t, r.what+", in a new term", got, sent, want, answer)
	}
}

func TestNoSecondVoteInATerm(t *testing.T) {
	n := youngNode()
	for term := int64(0); term <= 3; term++ {
		first := int64(0)
		for _, from := range []int64{3, 1, 3, 50, 1, 3} {
			m := impl.Msg{Kind: impl.MsVote, From: from, To: 2, Term: term, Index: 9, LogTerm: 9}
			next, sent := impl.Receive(n, m)
			if first == 0 {
				first = from
			}
			if len(sent) != 1 || sent[0].Ok != (from == first) || next.Vote != first || next.Term != term {
				t.Errorf("term %d, from %d: %+v, %+v", term, from, next, sent)
			}
			n = next
		}
	}
	n, _ = impl.Start(n)
	m := impl.Msg{Kind: impl.MsVote, From: 3, To: 2, Term: n.Term, Index: 9, LogTerm: 9}
	if _, sent := impl.Receive(n, m); sent[0].Ok {
		t.Error("a candidate votes for another one")
	}
	n, _ = impl.Receive(n, impl.Msg{Kind: impl.MsAppend, From: 1, To: 2, Term: n.Term})
	if next, sent := impl.Receive(n, m); sent[0].Ok || next.Vote != 2 {
		t.Error("one that was a candidate votes for another one")
	}
}

func TestVoted(t *testing.T) {
	five := with(aCandidate(), func(n *impl.Node) { n.BaseConf = confOf([]int64{1, 2, 3, 5, 6}, []int64{4}) })
	voted := func(from int64, ok bool) impl.Msg {
		return impl.Msg{Kind: impl.MsVoted, From: from, To: 2, Term: 5, Ok: ok}
	}
	votes := func(ids ...int64) func(*impl.Node) { return func(n *impl.Node) { n.Votes = ids } }
	for _, r := range []struct {
		what string
		n    impl.Node
		m    impl.Msg
		want impl.Node
	}{
		{"the second of five", five, voted(3, true), with(five, votes(2, 3))},
		{"the second of five, ahead", five, voted(1, true), with(five, votes(1, 2))},
		{"the second once more", with(five, votes(2, 3)), voted(3, true), with(five, votes(2, 3))},
		{"between others", with(five, func(n *impl.Node) { n.BaseConf = voters(countUp(1, 7)...) }, votes(2, 6)), voted(4, true), with(five, func(n *impl.Node) { n.BaseConf = voters(countUp(1, 7)...) }, votes(2, 4, 6))},
		{"not Ok", five, voted(3, false), five},
		{"not Ok, where it would do", aCandidate(), voted(3, false), aCandidate()},
		{"a learner's", aCandidate(), voted(4, true), with(aCandidate(), votes(2, 4))},
		{"a stranger's", aCandidate(), voted(50, true), with(aCandidate(), votes(2, 50))},
		{"of four just half", with(five, func(n *impl.Node) { n.BaseConf = voters(1, 2, 3, 5) }), voted(5, true), with(five, func(n *impl.Node) { n.BaseConf = voters(1, 2, 3, 5) }, votes(2, 5))},
		{"a candidate that goes", with(aCandidate(), func(n *impl.Node) { n.Log[3] = confEntry(5, "v 1 3") }), voted(3, true), with(aCandidate(), func(n *impl.Node) { n.Log[3] = confEntry(5, "v 1 3") }, votes(2, 3))},
		{"a follower", aFollower(), voted(3, true), aFollower()},
		{"a leader", aLeader(), voted(3, true), aLeader()},
	} {
		got, sent := impl.Receive(r.n, r.m)
		checkStep(t, r.what, got, sent, r.want)
	}
}

func TestBecomingLeader(t *testing.T) {
	leads := func(n *impl.Node) { n.Role, n.Leader, n.Votes = impl.RoLeader, 2, nil }
	adds := func(n *impl.Node) { n.Log = append(n.Log, impl.Entry{Term: 5}) }
	peers := func(next int64, ids ...int64) func(*impl.Node) {
		return func(n *impl.Node) {
			for _, id := range ids {
				n.Peers = append(n.Peers, impl.Peer{Id: id, Next: next})
			}
		}
	}
	sends := func(n impl.Node, index, term int64, entries ...impl.Entry) []impl.Msg {
		var sent []impl.Msg
		for _, p := range n.Peers {
			sent = append(sent, impl.Msg{Kind: impl.MsAppend, From: 2, To: p.Id, Term: 5, Index: index, LogTerm: term, Entries: entries, Commit: n.Commit})
		}
		return sent
	}
	none := impl.Entry{Term: 5}
	voted := impl.Msg{Kind: impl.MsVoted, From: 3, To: 2, Term: 5, Ok: true}

	got, sent := impl.Receive(aCandidate(), voted)
	want := with(aCandidate(), leads, adds, peers(15, 1, 3, 4))
	checkStep(t, "two of three", got, sent, want, sends(want, 14, 5, none)...)

	five := with(aCandidate(), func(n *impl.Node) { n.BaseConf, n.Votes = voters(1, 2, 3, 5, 6), []int64{2, 6} })
	got, sent = impl.Receive(five, voted)
	want = with(five, leads, adds, peers(15, 1, 3, 5, 6))
	checkStep(t, "three of five", got, sent, want, sends(want, 14, 5, none)...)

	many := with(aCandidate(), func(n *impl.Node) { n.Votes, n.Leader = []int64{1, 2}, 7 })
	got, sent = impl.Receive(many, voted)
	want = with(aCandidate(), leads, adds, peers(15, 1, 3, 4))
	checkStep(t, "more than a quorum", got, sent, want, sends(want, 14, 5, none)...)
	again := voted
	again.From = 1
	got, sent = impl.Receive(many, again)
	checkStep(t, "a quorum, once more", got, sent, want, sends(want, 14, 5, none)...)
	again.From = 50
	got, sent = impl.Receive(many, again)
	checkStep(t, "a quorum, and a stranger", got, sent, want, sends(want, 14, 5, none)...)

	full := with(aCandidate(), func(n *impl.Node) { n.Log = longLog(500, 5) })
	got, sent = impl.Receive(full, voted)
	want = with(full, leads, peers(511, 1, 3, 4))
	checkStep(t, "a full log", got, sent, want, sends(want, 510, 5)...)

	nearly := with(aCandidate(), func(n *impl.Node) { n.Log = longLog(499, 5) })
	got, sent = impl.Receive(nearly, voted)
	want = with(nearly, leads, adds, peers(510, 1, 3, 4))
	checkStep(t, "a log that is full then", got, sent, want, sends(want, 509, 5, none)...)

	conf := with(aCandidate(), func(n *impl.Node) { n.Log[3] = confEntry(5, "v 2 3 l 1 8") })
	got, sent = impl.Receive(conf, voted)
	want = with(conf, leads, adds, peers(15, 1, 3, 8))
	checkStep(t, "members that are not agreed on", got, sent, want, sends(want, 14, 5, none)...)

	// one that is the only voter now, as a vote finds it still a candidate: all of its Term is agreed on at once
	alone := with(aCandidate(), func(n *impl.Node) { n.BaseConf = confOf([]int64{2}, []int64{7}) })
	got, sent = impl.Receive(alone, voted)
	want = with(alone, leads, adds, peers(15, 7), func(n *impl.Node) { n.Commit = 15 })
	checkStep(t, "the only voter", got, sent, want, sends(want, 14, 5, none)...)

	// one that goes, and is chosen by the others: its own is not counted
	goes := with(aCandidate(), func(n *impl.Node) { n.Log[3], n.Votes = confEntry(5, "v 1 3"), []int64{1, 2} })
	got, sent = impl.Receive(goes, voted)
	want = with(goes, leads, adds, peers(15, 1, 3))
	checkStep(t, "one that goes", got, sent, want, sends(want, 14, 5, none)...)
}

func TestAppend(t *testing.T) {
	n := aFollower() // 11 .. 14 have the terms 2, 3, 3, 5; up to 12 they are agreed on
	candidate := aCandidate()
	log := n.Log
	follow := func(n *impl.Node) { n.Role, n.Leader, n.Votes = impl.RoFollower, 3, nil }
	logged := func(log []impl.Entry, commit int64) func(*impl.Node) {
		return func(n *impl.Node) { n.Log, n.Commit = log, commit }
	}
	no := func(index int64) []impl.Msg {
		return []impl.Msg{{Kind: impl.MsAppended, From: 2, To: 3, Term: 5, Index: index}}
	}
	yes := func(index int64) []impl.Msg {
		return []impl.Msg{{Kind: impl.MsAppended, From: 2, To: 3, Term: 5, Ok: true, Index: index}}
	}
	join := func(lists ...[]impl.Entry) []impl.Entry { return slices.Concat(lists...) }
	for _, r := range []struct {
		what           string
		index, logTerm int64
		entries        []impl.Entry
		commit         int64
		log            []impl.Entry
		then           int64
		sent           []impl.Msg
	}{
		{"below Base", 9, 2, otherLog(5), 99, log, 12, yes(12)},
		{"below Base, an entry that would fit", 9, 2, logOf(2), 99, log, 12, yes(12)},
		{"at 0", 0, 0, nil, 0, log, 12, yes(12)},
		{"below 0", -1, 0, nil, 0, log, 12, yes(12)},
		{"the least index", math.MinInt64, 0, otherLog(5), 14, log, 12, yes(12)},
		{"at Base", 10, 2, nil, 0, log, 12, yes(10)},
		{"at Base, another term", 10, 3, nil, 14, log, 12, no(10)},
		{"at Base, a term below", 10, 1, otherLog(2), 14, log, 12, no(10)},
		{"behind Base, another term", 11, 3, nil, 14, log, 12, no(10)},
		{"two behind Base, another term", 12, 2, nil, 14, log, 12, no(11)},
		{"in the midst", 12, 3, nil, 0, log, 12, yes(12)},
		{"in the midst, another term", 13, 5, nil, 14, log, 12, no(12)},
		{"in the midst, another term and entries", 13, 4, otherLog(5), 14, log, 12, no(12)},
		{"at the last index", 14, 5, nil, 0, log, 12, yes(14)},
		{"at the last index, another term", 14, 3, nil, 99, log, 12, no(13)},
		{"at the last index, a term above", 14, 6, nil, 99, log, 12, no(13)},
		{"at the last index, a term below 0", 14, -1, nil, 99, log, 12, no(13)},
		{"above the last index", 15, 5, nil, 99, log, 12, no(14)},
		{"above the last index, with entries", 15, 5, otherLog(5), 99, log, 12, no(14)},
		{"far above", 999, 5, nil, 99, log, 12, no(14)},
		{"the greatest index", math.MaxInt64, 5, otherLog(5), 99, log, 12, no(14)},

		{"one more", 14, 5, otherLog(5), 0, join(log, otherLog(5)), 12, yes(15)},
		{"eight more", 14, 5, longLog(8, 5), 0, join(log, longLog(8, 5)), 12, yes(22)},
		{"all there already", 10, 2, otherLog(2, 3, 3, 5), 0, log, 12, yes(14)},
		{"some there already, no more", 11, 2, otherLog(3, 3), 0, log, 12, yes(13)},
		{"some there already, and more", 13, 3, otherLog(5, 5), 0, join(log, otherLog(5, 5)[1:]), 12, yes(15)},
		{"all there already, and more", 10, 2, otherLog(2, 3, 3, 5, 5), 0, join(log, otherLog(2, 3, 3, 5, 5)[4:]), 12, yes(15)},
		{"another at the end", 13, 3, otherLog(4), 0, join(log[:3], otherLog(4)), 12, yes(14)},
		{"another behind Commit", 12, 3, otherLog(4), 0, join(log[:2], otherLog(4)), 12, yes(13)},
		{"another behind Commit, and more", 12, 3, otherLog(4, 4, 5), 0, join(log[:2], otherLog(4, 4, 5)), 12, yes(15)},
		{"there already, then another", 11, 2, otherLog(3, 5), 0, join(log[:2], otherLog(3, 5)[1:]), 12, yes(13)},
		{"another at Commit", 11, 2, otherLog(4), 99, log, 12, nil},
		{"another at Commit, and more", 11, 2, otherLog(4, 4, 5), 99, log, 12, nil},
		{"another below Commit", 10, 2, otherLog(3, 3), 99, log, 12, nil},
		{"there already, then another at Commit", 10, 2, otherLog(2, 5), 99, log, 12, nil},
		{"terms that fall", 14, 5, otherLog(5, 4), 99, log, 12, nil},
		{"a term below LogTerm", 14, 5, otherLog(4), 99, log, 12, nil},
		{"terms that fall, behind Commit", 12, 3, otherLog(2), 99, log, 12, nil},
		{"terms that fall, where some are there", 12, 3, otherLog(3, 5, 4), 99, log, 12, nil},
		{"terms that fall at the end", 12, 3, otherLog(4, 5, 5, 4), 99, log, 12, nil},
		{"a term above Term", 14, 5, otherLog(6), 99, log, 12, nil},
		{"a term above Term at the end", 12, 3, otherLog(4, 5, 6), 99, log, 12, nil},
		{"a term above Term, others there", 12, 3, otherLog(3, 5, 6), 99, log, 12, nil},
		{"a conf", 14, 5, []impl.Entry{confEntry(5, "v 9")}, 0, join(log, []impl.Entry{confEntry(5, "v 9")}), 12, yes(15)},
		{"nothing to do", 14, 5, []impl.Entry{{Term: 5}}, 0, join(log, []impl.Entry{{Term: 5}}), 12, yes(15)},

		{"a Commit that is less", 14, 5, nil, 11, log, 12, yes(14)},
		{"the same Commit", 14, 5, nil, 12, log, 12, yes(14)},
		{"a Commit that is more", 14, 5, nil, 13, log, 13, yes(14)},
		{"a Commit at Index", 14, 5, nil, 14, log, 14, yes(14)},
		{"a Commit above Index", 14, 5, nil, 15, log, 14, yes(14)},
		{"the greatest Commit", 14, 5, nil, math.MaxInt64, log, 14, yes(14)},
		{"a Commit below 0", 14, 5, nil, -1, log, 12, yes(14)},
		{"the least Commit", 14, 5, nil, math.MinInt64, log, 12, yes(14)},
		{"a Commit above Index, that is below the last", 13, 3, nil, 14, log, 13, yes(13)},
		{"a Commit above Index, that is below Commit", 11, 2, nil, 14, log, 12, yes(11)},
		{"a Commit at the last of Entries", 13, 3, otherLog(5, 5), 15, join(log, otherLog(5, 5)[1:]), 15, yes(15)},
		{"a Commit below the last of Entries", 13, 3, otherLog(5, 5), 14, join(log, otherLog(5, 5)[1:]), 14, yes(15)},
		{"a Commit above the last of Entries", 13, 3, otherLog(5, 5), 16, join(log, otherLog(5, 5)[1:]), 15, yes(15)},
		{"a Commit above Entries that are there", 10, 2, otherLog(2, 3, 3), 99, log, 13, yes(13)},
		{"a Commit above another one", 12, 3, otherLog(5), 99, join(log[:2], otherLog(5)), 13, yes(13)},
	} {
		m := impl.Msg{Kind: impl.MsAppend, From: 3, To: 2, Term: 5, Index: r.index, LogTerm: r.logTerm, Entries: r.entries, Commit: r.commit}
		got, sent := impl.Receive(n, m)
		checkStep(t, r.what, got, sent, with(n, follow, logged(r.log, r.then)), r.sent...)
		got, sent = impl.Receive(candidate, m)
		checkStep(t, r.what+", a candidate", got, sent, with(candidate, follow, logged(r.log, r.then)), r.sent...)
		got, sent = impl.Receive(aLeader(), m)
		checkStep(t, r.what+", a leader", got, sent, aLeader())
	}
}

func TestAppendToAFullLog(t *testing.T) {
	n := with(aFollower(), func(n *impl.Node) { n.Log = longLog(498, 5) }) // the last index is 508
	follow := func(n *impl.Node) { n.Leader = 3 }
	yes := func(index int64) []impl.Msg {
		return []impl.Msg{{Kind: impl.MsAppended, From: 2, To: 3, Term: 6, Ok: true, Index: index}}
	}
	for _, r := range []struct {
		what    string
		index   int64
		entries []impl.Entry
		log     []impl.Entry
		commit  int64
		sent    []impl.Msg
	}{
		{"the 499th and the 500th", 508, otherLog(5, 6), slices.Concat(n.Log, otherLog(5, 6)), 510, yes(510)},
		{"the 501st", 508, otherLog(5, 6, 6), n.Log, 12, nil},
		{"eight of which five are too many", 505, otherLog(5, 5, 5, 5, 5, 6, 6, 6), n.Log, 12, nil},
		{"eight of which three are there", 505, otherLog(5, 5, 5, 5, 6), slices.Concat(n.Log, otherLog(5, 5, 5, 5, 6)[3:]), 510, yes(510)},
		{"others for those at the end", 506, otherLog(6, 6, 6, 6), slices.Concat(n.Log[:496], otherLog(6, 6, 6, 6)), 510, yes(510)},
		{"others for those at the end, one too many", 506, otherLog(6, 6, 6, 6, 6), n.Log, 12, nil},
	} {
		m := impl.Msg{Kind: impl.MsAppend, From: 3, To: 2, Term: 6, Index: r.index, LogTerm: 5, Entries: r.entries, Commit: 999}
		want := with(n, follow, func(n *impl.Node) { n.Term, n.Vote, n.Log, n.Commit = 6, 0, r.log, r.commit })
		got, sent := impl.Receive(n, m)
		checkStep(t, r.what, got, sent, want, r.sent...)
	}
}

func TestAppendToAYoungNode(t *testing.T) {
	n := youngNode()
	m := impl.Msg{Kind: impl.MsAppend, From: 3, To: 2, Term: 1, Entries: logOf(1), Commit: 1}
	answer := impl.Msg{Kind: impl.MsAppended, From: 2, To: 3, Term: 1, Ok: true, Index: 1}
	got, sent := impl.Receive(n, m)
	checkStep(t, "the first", got, sent, with(n, func(n *impl.Node) { n.Term, n.Leader, n.Log, n.Commit = 1, 3, logOf(1), 1 }), answer)

	m.LogTerm = 1
	got, sent = impl.Receive(n, m)
	answer = impl.Msg{Kind: impl.MsAppended, From: 2, To: 3, Term: 1}
	checkStep(t, "another term at 0", got, sent, with(n, func(n *impl.Node) { n.Term, n.Leader = 1, 3 }), answer)

	m.Index, m.LogTerm = 1, 0
	got, sent = impl.Receive(n, m)
	checkStep(t, "above the last index", got, sent, with(n, func(n *impl.Node) { n.Term, n.Leader = 1, 3 }), answer)
}

func TestAppended(t *testing.T) {
	n := aLeader() // the voters 1, 2, 3; 14 is the last index, and the only one of its Term
	peer := func(at int, next, match, commit int64) func(*impl.Node) {
		return func(n *impl.Node) { n.Peers[at].Next, n.Peers[at].Match, n.Commit = next, match, commit }
	}
	for _, r := range []struct {
		what  string
		from  int64
		ok    bool
		index int64
		want  impl.Node
	}{
		{"an entry of another term", 1, true, 13, with(n, peer(0, 14, 13, 12))},
		{"an entry of its Term", 1, true, 14, with(n, peer(0, 15, 14, 14))},
		{"an entry of its Term, Next stays", 3, true, 14, with(n, peer(1, 15, 14, 14))},
		{"an entry of another term, Next stays", 3, true, 13, with(n, peer(1, 15, 13, 12))},
		{"at Match", 1, true, 12, n},
		{"below Match", 1, true, 11, n},
		{"at 0", 1, true, 0, n},
		{"below 0", 1, true, -1, n},
		{"the least index", 1, true, math.MinInt64, n},
		{"above the last index", 1, true, 15, n},
		{"far above", 3, true, 999, n},
		{"the greatest index", 3, true, math.MaxInt64, n},
		{"a learner's", 4, true, 14, with(n, peer(2, 15, 14, 12))},
		{"a learner's, below Base", 4, true, 9, with(n, peer(2, 10, 9, 12))},
		{"a learner's, at Base", 4, true, 10, with(n, peer(2, 11, 10, 12))},
		{"from no peer", 5, true, 14, n},
		{"from no peer, the last node", 50, true, 14, n},
		{"from no peer, not Ok", 5, false, 11, n},
	} {
		m := impl.Msg{Kind: impl.MsAppended, From: r.from, To: 2, Term: 5, Ok: r.ok, Index: r.index}
		got, sent := impl.Receive(n, m)
		checkStep(t, r.what, got, sent, r.want)
		for _, term := range []int64{0, 4} {
			m.Term = term
			got, sent = impl.Receive(n, m)
			checkStep(t, r.what+", of an old term", got, sent, n)
		}
		for _, other := range []impl.Node{aFollower(), aCandidate()} {
			m.Term = 5
			got, sent = impl.Receive(other, m)
			checkStep(t, r.what+", not a leader", got, sent, other)
		}
	}
}

func TestAppendedNotOk(t *testing.T) {
	n := with(aLeader(), func(n *impl.Node) { n.Peers[0] = impl.Peer{Id: 1, Next: 14, Match: 11} })
	for _, r := range []struct {
		what     string
		n        impl.Node
		from     int64
		index    int64
		at       int
		next     int64
		snap     bool
		logIndex int64
		logTerm  int64
		entries  []impl.Entry
	}{
		{"an Index that is more", n, 1, 99, 0, 13, false, 12, 3, n.Log[2:]},
		{"the greatest Index", n, 1, math.MaxInt64, 0, 13, false, 12, 3, n.Log[2:]},
		{"Next and 1", n, 1, 15, 0, 13, false, 12, 3, n.Log[2:]},
		{"Next", n, 1, 14, 0, 13, false, 12, 3, n.Log[2:]},
		{"Next less 1", n, 1, 13, 0, 13, false, 12, 3, n.Log[2:]},
		{"Next less 2", n, 1, 12, 0, 13, false, 12, 3, n.Log[2:]},
		{"at Match", n, 1, 11, 0, 12, false, 11, 2, n.Log[1:]},
		{"below Match", n, 1, 10, 0, 12, false, 11, 2, n.Log[1:]},
		{"at 0", n, 1, 0, 0, 12, false, 11, 2, n.Log[1:]},
		{"the least Index", n, 1, math.MinInt64, 0, 12, false, 11, 2, n.Log[1:]},
		{"with no Match, one less", n, 3, 14, 1, 14, false, 13, 3, n.Log[3:]},
		{"with no Match, far less", n, 3, 10, 1, 11, false, 10, 2, n.Log},
		{"with no Match, to Base", n, 3, 9, 1, 10, true, 0, 0, nil},
		{"with no Match, to 0", n, 3, 0, 1, 1, true, 0, 0, nil},
		{"with no Match, below 0", n, 3, -1, 1, 1, true, 0, 0, nil},
		{"with no Match, the least Index", n, 3, math.MinInt64, 1, 1, true, 0, 0, nil},
		{"a learner's", n, 4, 99, 2, 9, true, 0, 0, nil},
		{"a learner's, to 5", n, 4, 4, 2, 5, true, 0, 0, nil},
		{"Next 1", with(n, func(n *impl.Node) { n.Peers[2].Next = 1 }), 4, 0, 2, 1, true, 0, 0, nil},
		{"Next 1, a great Index", with(n, func(n *impl.Node) { n.Peers[2].Next = 1 }), 4, math.MaxInt64, 2, 1, true, 0, 0, nil},
		{"Match just below Next", aLeader(), 1, 12, 0, 13, false, 12, 3, n.Log[2:]},
	} {
		want := with(r.n, func(n *impl.Node) { n.Peers[r.at].Next = r.next })
		answer := impl.Msg{Kind: impl.MsAppend, From: 2, To: r.from, Term: 5, Index: r.logIndex, LogTerm: r.logTerm, Entries: r.entries, Commit: 12}
		if r.snap {
			answer = impl.Msg{Kind: impl.MsSnap, From: 2, To: r.from, Term: 5, Index: 10, LogTerm: 2, Text: "state", Conf: n.BaseConf}
		}
		got, sent := impl.Receive(r.n, impl.Msg{Kind: impl.MsAppended, From: r.from, To: 2, Term: 5, Index: r.index})
		checkStep(t, r.what, got, sent, want, answer)
	}
}

func TestWhatALeaderCounts(t *testing.T) {
	five := func(terms []int64, matches ...int64) impl.Node {
		n := impl.Node{Id: 1, Term: 4, Vote: 1, BaseConf: confOf(countUp(1, 5), []int64{6, 7}), Log: logOf(terms...), Role: impl.RoLeader, Leader: 1}
		for i, match := range matches {
			n.Peers = append(n.Peers, impl.Peer{Id: int64(i + 2), Next: match + 1, Match: match})
		}
		return n
	}
	now := []int64{1, 2, 4, 4, 4}
	for _, r := range []struct {
		what   string
		n      impl.Node
		commit int64
	}{
		{"nobody has anything", five(now, 0, 0, 0, 0, 0, 0), 0},
		{"one other has all", five(now, 5, 0, 0, 0, 0, 0), 0},
		{"two others have all", five(now, 5, 5, 0, 0, 0, 0), 5},
		{"two others have some", five(now, 5, 4, 0, 0, 0, 0), 4},
		{"two others have the first of its Term", five(now, 3, 3, 0, 0, 0, 0), 3},
		{"two others have those of other terms", five(now, 2, 2, 0, 0, 0, 0), 0},
		{"all others have those of other terms", five(now, 2, 2, 2, 2, 2, 2), 0},
		{"the greatest that three have", five(now, 5, 4, 3, 3, 0, 0), 4},
		{"learners do not count", five(now, 5, 0, 0, 0, 5, 5), 0},
		{"learners do not count for more", five(now, 4, 3, 0, 0, 5, 5), 3},
		{"none is of its Term", five([]int64{1, 2, 3}, 3, 3, 3, 3, 3, 3), 0},
		{"those of other terms come with it", five([]int64{1, 2, 3, 4}, 4, 4, 0, 0, 0, 0), 4},
	} {
		m := impl.Msg{Kind: impl.MsAppended, From: 6, To: 1, Term: 4, Ok: true}
		got, sent := impl.Receive(r.n, m)
		checkStep(t, r.what, got, sent, with(r.n, func(n *impl.Node) { n.Commit = r.commit }))
		m.Index = 99
		got, sent = impl.Receive(r.n, m)
		checkStep(t, r.what+", not asked", got, sent, r.n)
	}
	ahead := with(five(now, 3, 3, 0, 0, 0, 0), func(n *impl.Node) { n.Commit = 4 })
	got, sent := impl.Receive(ahead, impl.Msg{Kind: impl.MsAppended, From: 6, To: 1, Term: 4, Ok: true})
	checkStep(t, "less than Commit", got, sent, ahead)

	// of the members now, that are not agreed on: 1 has gone, so that both others have to have it
	goes := with(five(now, 5, 0), func(n *impl.Node) { n.Log[4] = confEntry(4, "v 2 3") })
	got, sent = impl.Receive(goes, impl.Msg{Kind: impl.MsAppended, From: 3, To: 1, Term: 4, Ok: true, Index: 0})
	checkStep(t, "its own does not count", got, sent, goes)
	got, sent = impl.Receive(goes, impl.Msg{Kind: impl.MsAppended, From: 3, To: 1, Term: 4, Ok: true, Index: 5})
	checkStep(t, "both others", got, sent, with(goes, func(n *impl.Node) { n.Commit, n.Peers[1] = 5, impl.Peer{Id: 3, Next: 6, Match: 5} }))
}

func TestSnap(t *testing.T) {
	n := aFollower() // 11 .. 14 have the terms 2, 3, 3, 5; up to 12 they are agreed on
	c := confOf([]int64{2, 7}, []int64{9})
	long := strings.Repeat("x", 20000)
	const most = impl.MaxNumber
	for _, r := range []struct {
		what           string
		index, logTerm int64
		text           string
		conf           impl.Conf
		log            []impl.Entry
		taken          bool
		answered       bool
	}{
		{"behind Commit, that term there", 13, 3, "new", c, n.Log[3:], true, true},
		{"behind Commit, another term there", 13, 4, "new", c, nil, true, true},
		{"behind Commit, a term below there", 13, 2, "new", c, nil, true, true},
		{"the last index", 14, 5, "new", c, nil, true, true},
		{"the last index, another term", 14, 4, "new", c, nil, true, true},
		{"above the last index", 15, 5, "new", c, nil, true, true},
		{"far above", 99, 5, "new", c, nil, true, true},
		{"the greatest Base", most - 500, 5, "new", c, nil, true, true},
		{"LogTerm is BaseTerm", 20, 2, "new", c, nil, true, true},
		{"an empty text", 20, 5, "", c, nil, true, true},
		{"a long text", 20, 5, long, c, nil, true, true},
		{"at Commit", 12, 3, "new", c, n.Log, false, true},
		{"below Commit", 11, 2, "new", c, n.Log, false, true},
		{"at Base", 10, 2, "new", c, n.Log, false, true},
		{"below Base", 3, 2, "new", c, n.Log, false, true},
		{"at 0", 0, 0, "", c, n.Log, false, true},
		{"below 0", -1, 3, "new", c, n.Log, false, true},
		{"the least index", math.MinInt64, 3, "new", c, n.Log, false, true},
		{"at Commit, all else wrong", 12, 99, long + "x", impl.Conf{}, n.Log, false, true},
		{"Base too great", most - 499, 5, "new", c, n.Log, false, false},
		{"the greatest number", most, 5, "new", c, n.Log, false, false},
		{"above all numbers", math.MaxInt64, 5, "new", c, n.Log, false, false},
		{"LogTerm below BaseTerm", 20, 1, "new", c, n.Log, false, false},
		{"LogTerm below 0", 20, -1, "new", c, n.Log, false, false},
		{"LogTerm above Term", 20, 6, "new", c, n.Log, false, false},
		{"the greatest LogTerm", 20, math.MaxInt64, "new", c, n.Log, false, false},
		{"a text too long", 20, 5, long + "x", c, n.Log, false, false},
		{"no conf", 20, 5, "new", impl.Conf{}, n.Log, false, false},
		{"a conf that is not right", 20, 5, "new", voters(2, 1), n.Log, false, false},
		{"a conf that is not right, that term there", 13, 3, "new", voters(0), n.Log, false, false},
	} {
		m := impl.Msg{Kind: impl.MsSnap, From: 3, To: 2, Term: 5, Index: r.index, LogTerm: r.logTerm, Text: r.text, Conf: r.conf}
		for what, from := range map[string]impl.Node{"a follower": n, "a candidate": aCandidate()} {
			want := with(from, func(n *impl.Node) {
				n.Role, n.Leader, n.Votes, n.Log = impl.RoFollower, 3, nil, r.log
				if r.taken {
					n.Base, n.BaseTerm, n.BaseConf, n.BaseState, n.Commit = r.index, r.logTerm, r.conf, r.text, r.index
				}
			})
			var answers []impl.Msg
			if r.answered {
				answers = []impl.Msg{{Kind: impl.MsAppended, From: 2, To: 3, Term: 5, Ok: true, Index: want.Commit}}
			}
			got, sent := impl.Receive(from, m)
			checkStep(t, r.what+", "+what, got, sent, want, answers...)
		}
		got, sent := impl.Receive(aLeader(), m)
		checkStep(t, r.what+", a leader", got, sent, aLeader())
		m.Term = 4
		got, sent = impl.Receive(n, m)
		checkStep(t, r.what+", an old term", got, sent, n, impl.Msg{Kind: impl.MsAppended, From: 2, To: 3, Term: 5, Index: 14})
	}
	m := impl.Msg{Kind: impl.MsSnap, From: 3, To: 2, Term: 7, Index: 20, LogTerm: 7, Text: "new", Conf: c}
	got, sent := impl.Receive(aLeader(), m)
	want := impl.Node{Id: 2, Term: 7, Base: 20, BaseTerm: 7, BaseConf: c, BaseState: "new", Commit: 20, Leader: 3}
	checkStep(t, "a LogTerm of the new term", got, sent, want, impl.Msg{Kind: impl.MsAppended, From: 2, To: 3, Term: 7, Ok: true, Index: 20})
	m.LogTerm = 8
	got, sent = impl.Receive(aLeader(), m)
	checkStep(t, "a LogTerm above the new term", got, sent, with(aFollower(), func(n *impl.Node) { n.Term, n.Vote, n.Leader = 7, 0, 3 }))
	young := impl.Msg{Kind: impl.MsSnap, From: 3, To: 2, Index: 1, Conf: c}
	got, sent = impl.Receive(youngNode(), young)
	want = impl.Node{Id: 2, Base: 1, BaseConf: c, Commit: 1, Leader: 3}
	checkStep(t, "a young node in term 0", got, sent, want, impl.Msg{Kind: impl.MsAppended, From: 2, To: 3, Ok: true, Index: 1})
}

func checkProposed(t *testing.T, what string, n impl.Node, kind int64, body string, want impl.Node, index, code int64) {
	t.Helper()
	got, at, gotCode := impl.Propose(n, kind, body)
	if gotCode != code || at != index {
		t.Errorf("%s: index %d, code %d", what, at, gotCode)
	}
	if !sameNode(got, want) {
		t.Errorf("%s: the node\n%+v, not\n%+v", what, got, want)
	}
	if !impl.NodeOk(got) {
		t.Errorf("%s: the node is not right any more", what)
	}
	if last, _ := impl.LastOf(got); code == impl.PpOk && (last != index || got.Log[len(got.Log)-1] != (impl.Entry{Term: got.Term, Kind: kind, Body: body})) {
		t.Errorf("%s: what it proposed is not its last entry", what)
	}
}

func TestPropose(t *testing.T) {
	long := strings.Repeat("x", 4000)
	put := func(e impl.Entry) func(*impl.Node) { return func(n *impl.Node) { n.Log = append(n.Log, e) } }
	for _, e := range []impl.Entry{{Term: 5}, {Term: 5, Kind: 1}, {Term: 5, Kind: 1, Body: "x"}, {Term: 5, Kind: 1, Body: long}, {Term: 5, Kind: 1, Body: "v 1"}} {
		checkProposed(t, fmt.Sprint("kind ", e.Kind), aLeader(), e.Kind, e.Body, with(aLeader(), put(e)), 15, impl.PpOk)
	}
	alone := leaderAlone()
	checkProposed(t, "alone", alone, 1, "x", with(alone, put(impl.Entry{Term: 2, Kind: 1, Body: "x"}), func(n *impl.Node) { n.Commit = 3 }), 3, impl.PpOk)
	known := with(aLeader(), func(n *impl.Node) { n.Peers[1].Match = 14 })
	checkProposed(t, "it counts", known, 1, "x", with(known, put(impl.Entry{Term: 5, Kind: 1, Body: "x"}), func(n *impl.Node) { n.Commit = 14 }), 15, impl.PpOk)
	nearly := with(aLeader(), func(n *impl.Node) { n.Log = longLog(499, 5) })
	checkProposed(t, "the 500th", nearly, 1, "x", with(nearly, put(impl.Entry{Term: 5, Kind: 1, Body: "x"})), 510, impl.PpOk)
	full := with(aLeader(), func(n *impl.Node) { n.Log = longLog(500, 5) })
	for _, r := range []struct {
		what string
		n    impl.Node
		kind int64
		body string
		code int64
	}{
		{"a follower", aFollower(), 1, "x", impl.PpLeader},
		{"a candidate", aCandidate(), 1, "x", impl.PpLeader},
		{"a young node", youngNode(), 0, "", impl.PpLeader},
		{"a follower, no kind", aFollower(), 7, "x", impl.PpLeader},
		{"a follower, no conf", aFollower(), 2, "x", impl.PpLeader},
		{"a follower, a conf far off", aFollower(), 2, "v 9", impl.PpLeader},
		{"a follower with a full log", with(aFollower(), func(n *impl.Node) { n.Log = longLog(500, 5) }), 1, "x", impl.PpLeader},
		{"nothing to do with a body", aLeader(), 0, "x", impl.PpKind},
		{"a command that is too long", aLeader(), 1, long + "x", impl.PpKind},
		{"no conf", aLeader(), 2, "", impl.PpKind},
		{"a conf that is not right", aLeader(), 2, "v 1 2 2", impl.PpKind},
		{"a conf with a blank behind", aLeader(), 2, "v 1 2 3 ", impl.PpKind},
		{"a long conf", aLeader(), 2, long + "x", impl.PpKind},
		{"kind -1", aLeader(), -1, "", impl.PpKind},
		{"kind 3", aLeader(), 3, "", impl.PpKind},
		{"kind 9", aLeader(), 9, "", impl.PpKind},
		{"a great kind", aLeader(), math.MaxInt64, "", impl.PpKind},
		{"kind 3 and a full log", full, 3, "", impl.PpKind},
		{"nothing with a body and a full log", full, 0, "x", impl.PpKind},
		{"a wrong conf and a full log", full, 2, "v", impl.PpKind},
		{"a conf far off and a full log", full, 2, "v 9", impl.PpConf},
		{"a full log", full, 1, "x", impl.PpFull},
		{"a full log, nothing to do", full, 0, "", impl.PpFull},
	} {
		checkProposed(t, r.what, r.n, r.kind, r.body, r.n, 0, r.code)
	}
}

func TestProposeOfMembers(t *testing.T) {
	ready := with(aLeader(), func(n *impl.Node) { n.Commit = 14 }) // the term at its Commit is its Term
	conf := func(text string, peers ...impl.Peer) func(*impl.Node) {
		return func(n *impl.Node) { n.Log, n.Peers = append(n.Log, confEntry(5, text)), peers }
	}
	one, three, four := ready.Peers[0], ready.Peers[1], ready.Peers[2]
	for _, r := range []struct {
		text  string
		peers []impl.Peer
	}{
		{"v 1 2 3 l 4 5", []impl.Peer{one, three, four, {Id: 5, Next: 15}}},
		{"v 1 2 3 l 4 50", []impl.Peer{one, three, four, {Id: 50, Next: 15}}},
		{"v 1 2 3", []impl.Peer{one, three}},
		{"v 1 2 3 4", []impl.Peer{one, three, four}},
		{"v 2 3 l 4", []impl.Peer{three, four}},
		{"v 1 2 l 4", []impl.Peer{one, four}},
		{"v 1 3 l 4", []impl.Peer{one, three, four}},
	} {
		checkProposed(t, r.text, ready, impl.EnConf, r.text, with(ready, conf(r.text, r.peers...)), 15, impl.PpOk)
	}
	between := with(ready, func(n *impl.Node) {
		n.BaseConf = confOf([]int64{2, 9}, []int64{20})
		n.Peers = []impl.Peer{{Id: 9, Next: 12, Match: 3}, {Id: 20, Next: 1}}
	})
	checkProposed(t, "a new peer ahead", between, impl.EnConf, "v 2 9 l 1 20", with(between, conf("v 2 9 l 1 20", impl.Peer{Id: 1, Next: 15}, impl.Peer{Id: 9, Next: 12, Match: 3}, impl.Peer{Id: 20, Next: 1})), 15, impl.PpOk)
	checkProposed(t, "a new peer between", between, impl.EnConf, "v 2 9 l 10 20", with(between, conf("v 2 9 l 10 20", impl.Peer{Id: 9, Next: 12, Match: 3}, impl.Peer{Id: 10, Next: 15}, impl.Peer{Id: 20, Next: 1})), 15, impl.PpOk)

	alone := leaderAlone()
	grown := with(alone, func(n *impl.Node) {
		n.Log, n.Commit, n.Peers = append(n.Log, confEntry(2, "v 1 l 2")), 3, []impl.Peer{{Id: 2, Next: 3}}
	})
	checkProposed(t, "alone, it learns", alone, impl.EnConf, "v 1 l 2", grown, 3, impl.PpOk)
	both := with(grown, func(n *impl.Node) { n.Log = append(n.Log, confEntry(2, "v 1 2")) })
	checkProposed(t, "a second voter, who has to agree", grown, impl.EnConf, "v 1 2", both, 4, impl.PpOk)
	left := with(both, func(n *impl.Node) { n.Commit, n.Peers[0] = 4, impl.Peer{Id: 2, Next: 5, Match: 4} })
	checkProposed(t, "back to one, who agrees at once", left, impl.EnConf, "v 1", with(left, func(n *impl.Node) { n.Log, n.Commit, n.Peers = append(n.Log, confEntry(2, "v 1")), 5, nil }), 5, impl.PpOk)
	checkProposed(t, "the leader goes", left, impl.EnConf, "v 2", with(left, func(n *impl.Node) { n.Log = append(n.Log, confEntry(2, "v 2")) }), 5, impl.PpOk)
}

func TestProposeOfMembersThatMayNotBe(t *testing.T) {
	ready := with(aLeader(), func(n *impl.Node) { n.Commit = 14 })
	for _, text := range []string{
		"v 1 2 3 l 4", "v 9", "v 1 2 5 l 4", "v 1 2 3 5", "v 1 2 3 5 l 4", "v 1 2 3 l 5", "v 1 2 3 l 4 5 6", "v 1 2", "v 2 l 4", "v 2 3 l 1 4", "v 1 2 4", "v 2 3 4", "v 1 2 3 4 5", "v 1 2 3 4 l 5", "v 1 2 4 l 3",
	} {
		checkProposed(t, text, ready, impl.EnConf, text, ready, 0, impl.PpConf)
	}
	only := leaderAlone()
	checkProposed(t, "the only voter and another one", only, impl.EnConf, "v 2", only, 0, impl.PpConf)
	checkProposed(t, "a voter that was no learner", only, impl.EnConf, "v 1 2", only, 0, impl.PpConf)

	old := aLeader() // the term at its Commit is 3
	checkProposed(t, "the term at Commit is another one", old, impl.EnConf, "v 1 2 3", old, 0, impl.PpConf)
	base := with(aLeader(), func(n *impl.Node) {
		n.Log, n.Commit, n.Peers = nil, 10, []impl.Peer{{Id: 1, Next: 11}, {Id: 3, Next: 11}, {Id: 4, Next: 11}}
	})
	checkProposed(t, "the term at Base is another one", base, impl.EnConf, "v 1 2 3", base, 0, impl.PpConf)
	based := with(base, func(n *impl.Node) { n.BaseTerm = 5 })
	checkProposed(t, "the term at Base is its own", based, impl.EnConf, "v 1 2 3", with(based, func(n *impl.Node) { n.Log, n.Peers = []impl.Entry{confEntry(5, "v 1 2 3")}, n.Peers[:2] }), 11, impl.PpOk)

	first := with(ready, func(n *impl.Node) { n.Log[3] = confEntry(5, "v 1 2 3 l 4") })
	checkProposed(t, "behind a conf that is agreed on", first, impl.EnConf, "v 1 2 3", with(first, func(n *impl.Node) { n.Log, n.Peers = append(n.Log, confEntry(5, "v 1 2 3")), n.Peers[:2] }), 15, impl.PpOk)
	open := with(first, func(n *impl.Node) { n.Log, n.Commit = append(n.Log, confEntry(5, "v 1 2 3 l 4")), 14 })
	checkProposed(t, "behind a conf that is not agreed on", open, impl.EnConf, "v 1 2 3", open, 0, impl.PpConf)
	later := with(open, func(n *impl.Node) { n.Log = append(n.Log, logOf(5, 5)...) })
	checkProposed(t, "behind a conf that is not agreed on, and others", later, impl.EnConf, "v 1 2 3", later, 0, impl.PpConf)
	checkProposed(t, "a command behind a conf that is not agreed on", later, impl.EnCommand, "x", with(later, func(n *impl.Node) { n.Log = append(n.Log, impl.Entry{Term: 5, Kind: 1, Body: "x"}) }), 18, impl.PpOk)
	full := with(ready, func(n *impl.Node) { n.Log = longLog(500, 5) })
	checkProposed(t, "a conf that may be, and a full log", full, impl.EnConf, "v 1 2 3", full, 0, impl.PpFull)
	checkProposed(t, "a conf that may not be, and a full log", full, impl.EnConf, "v 1 2", full, 0, impl.PpConf)
}
