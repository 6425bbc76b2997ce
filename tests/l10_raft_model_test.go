package tests

import (
	"slices"

	"loop.example/g00141/impl"
)

// The slow way of chapter 10: written from the document's words, one behind the other, beside the program.

func copyNode(n impl.Node) impl.Node {
	n.BaseConf = copyConf(n.BaseConf)
	n.Log, n.Votes, n.Peers = slices.Clone(n.Log), slices.Clone(n.Votes), slices.Clone(n.Peers)
	return n
}

func sameNode(a, b impl.Node) bool {
	if a.Id != b.Id || a.Term != b.Term || a.Vote != b.Vote || a.Base != b.Base || a.BaseTerm != b.BaseTerm || a.BaseState != b.BaseState {
		return false
	}
	if a.Commit != b.Commit || a.Role != b.Role || a.Leader != b.Leader || !sameConf(a.BaseConf, b.BaseConf) {
		return false
	}
	return slices.Equal(a.Log, b.Log) && slices.Equal(a.Votes, b.Votes) && slices.Equal(a.Peers, b.Peers)
}

func isZeroNode(n impl.Node) bool {
	return sameNode(n, impl.Node{})
}

func sameMsg(a, b impl.Msg) bool {
	if a.Kind != b.Kind || a.From != b.From || a.To != b.To || a.Term != b.Term || a.Index != b.Index || a.LogTerm != b.LogTerm {
		return false
	}
	return a.Commit == b.Commit && a.Ok == b.Ok && a.Text == b.Text && sameConf(a.Conf, b.Conf) && slices.Equal(a.Entries, b.Entries)
}

func sameMsgs(a, b []impl.Msg) bool {
	return slices.EqualFunc(a, b, sameMsg)
}

func copyMsg(m impl.Msg) impl.Msg {
	m.Entries, m.Conf = slices.Clone(m.Entries), copyConf(m.Conf)
	return m
}

func copyMsgs(list []impl.Msg) []impl.Msg {
	var copies []impl.Msg
	for _, m := range list {
		copies = append(copies, copyMsg(m))
	}
	return copies
}

func slowEntryOk(e impl.Entry) bool {
	if e.Term < 1 || e.Term > 1000000000000 || len(e.Body) > 4000 {
		return false
	}
	switch e.Kind {
	case 0:
		return e.Body == ""
	case 1:
		return true
	case 2:
		_, ok := slowReadConf(e.Body)
		return ok
	}
	return false
}

func slowConfNow(n impl.Node) impl.Conf {
	now := n.BaseConf
	for _, e := range n.Log {
		if e.Kind == 2 {
			now, _ = slowReadConf(e.Body)
		}
	}
	return copyConf(now)
}

func slowOthers(n impl.Node) []int64 {
	now := slowConfNow(n)
	var others []int64
	for id := int64(1); id <= 50; id++ {
		if id != n.Id && (slices.Contains(now.Voters, id) || slices.Contains(now.Learners, id)) {
			others = append(others, id)
		}
	}
	return others
}

func slowLast(n impl.Node) (int64, int64) {
	if len(n.Log) == 0 {
		return n.Base, n.BaseTerm
	}
	return n.Base + int64(len(n.Log)), n.Log[len(n.Log)-1].Term
}

func slowTermAt(n impl.Node, index int64) int64 {
	at, term := n.Base, n.BaseTerm
	for _, e := range n.Log {
		if at == index {
			break
		}
		at, term = at+1, e.Term
	}
	return term
}

func slowNodeOk(n impl.Node) bool {
	if n.Id < 1 || n.Id > 50 {
		return false
	}
	for _, number := range []int64{n.Term, n.Vote, n.Base, n.BaseTerm, n.Leader} {
		if number < 0 || number > 1000000000000 {
			return false
		}
	}
	if !slowConfOk(n.BaseConf) || len(n.Log) > 500 || n.BaseTerm > n.Term || n.Base+500 > 1000000000000 || len(n.BaseState) > 20000 {
		return false
	}
	for i, e := range n.Log {
		if !slowEntryOk(e) || e.Term < n.BaseTerm || e.Term > n.Term || i > 0 && e.Term < n.Log[i-1].Term {
			return false
		}
	}
	if last, _ := slowLast(n); n.Commit < n.Base || n.Commit > last {
		return false
	}
	switch n.Role {
	case 0:
		return len(n.Votes) == 0 && len(n.Peers) == 0 && n.Leader != n.Id
	case 1:
		return slowVotesOk(n.Votes) && len(n.Peers) == 0 && n.Term >= 1 && n.Vote == n.Id
	case 2:
		return len(n.Votes) == 0 && slowPeersOk(n) && n.Term >= 1 && n.Vote == n.Id && n.Leader == n.Id
	}
	return false
}

func slowVotesOk(votes []int64) bool {
	for i, id := range votes {
		if id < 1 || id > 50 || i > 0 && id <= votes[i-1] {
			return false
		}
	}
	return true
}

func slowPeersOk(n impl.Node) bool {
	var ids []int64
	last, _ := slowLast(n)
	for _, p := range n.Peers {
		ids = append(ids, p.Id)
		if p.Next < 1 || p.Next > last+1 || p.Match < 0 || p.Match >= p.Next {
			return false
		}
	}
	return slices.Equal(ids, slowOthers(n))
}

func slowCount(n *impl.Node) {
	now := slowConfNow(*n)
	last, _ := slowLast(*n)
	found := n.Commit
	for index := n.Commit + 1; index <= last; index++ {
		have := []int64{n.Id}
		for _, p := range n.Peers {
			if p.Match >= index {
				have = append(have, p.Id)
			}
		}
		if slowTermAt(*n, index) == n.Term && slowQuorum(now, have) {
			found = index
		}
	}
	n.Commit = found
}

func slowBeatFor(n impl.Node, p impl.Peer) impl.Msg {
	m := impl.Msg{From: n.Id, To: p.Id, Term: n.Term}
	if p.Next <= n.Base {
		m.Kind, m.Index, m.LogTerm, m.Text, m.Conf = 5, n.Base, n.BaseTerm, n.BaseState, copyConf(n.BaseConf)
		return m
	}
	m.Kind, m.Index, m.LogTerm, m.Commit = 3, p.Next-1, slowTermAt(n, p.Next-1), n.Commit
	for i, e := range n.Log {
		if n.Base+1+int64(i) >= p.Next && len(m.Entries) < 8 {
			m.Entries = append(m.Entries, e)
		}
	}
	return m
}

func slowBeat(n impl.Node) []impl.Msg {
	if !slowNodeOk(n) || n.Role != 2 {
		return nil
	}
	var sent []impl.Msg
	for _, p := range n.Peers {
		sent = append(sent, slowBeatFor(n, p))
	}
	return sent
}

func slowLead(n *impl.Node) []impl.Msg {
	last, _ := slowLast(*n)
	n.Role, n.Leader, n.Votes, n.Peers = 2, n.Id, nil, nil
	for _, id := range slowOthers(*n) {
		n.Peers = append(n.Peers, impl.Peer{Id: id, Next: last + 1})
	}
	if len(n.Log) < 500 {
		n.Log = append(n.Log, impl.Entry{Term: n.Term})
	}
	slowCount(n)
	return slowBeat(*n)
}

func slowStart(n impl.Node) (impl.Node, []impl.Msg) {
	if !slowNodeOk(n) {
		return impl.Node{}, nil
	}
	n = copyNode(n)
	now := slowConfNow(n)
	if n.Role == 2 || !slices.Contains(now.Voters, n.Id) || n.Term == 1000000000000 {
		return n, nil
	}
	n.Term, n.Vote, n.Role, n.Votes, n.Leader = n.Term+1, n.Id, 1, []int64{n.Id}, 0
	if slowQuorum(now, n.Votes) {
		sent := slowLead(&n)
		return n, sent
	}
	var sent []impl.Msg
	last, lastTerm := slowLast(n)
	for _, id := range now.Voters {
		if id != n.Id {
			sent = append(sent, impl.Msg{Kind: 1, From: n.Id, To: id, Term: n.Term, Index: last, LogTerm: lastTerm})
		}
	}
	return n, sent
}

func slowReceive(n impl.Node, m impl.Msg) (impl.Node, []impl.Msg) {
	if !slowNodeOk(n) {
		return impl.Node{}, nil
	}
	n = copyNode(n)
	if m.To != n.Id || m.From < 1 || m.From > 50 || m.From == n.Id || m.Term < 0 || m.Term > 1000000000000 || m.Kind < 1 || m.Kind > 5 || len(m.Entries) > 8 {
		return n, nil
	}
	for _, e := range m.Entries {
		if !slowEntryOk(e) {
			return n, nil
		}
	}
	if m.Term > n.Term {
		n.Term, n.Vote, n.Role, n.Leader, n.Votes, n.Peers = m.Term, 0, 0, 0, nil, nil
	}
	var sent []impl.Msg
	switch m.Kind {
	case 1:
		sent = slowVote(&n, m)
	case 2:
		sent = slowVoted(&n, m)
	case 4:
		sent = slowAppended(&n, m)
	case 3, 5:
		last, _ := slowLast(n)
		if m.Term < n.Term {
			return n, []impl.Msg{{Kind: 4, From: n.Id, To: m.From, Term: n.Term, Index: last}}
		}
		if n.Role == 2 {
			return n, nil
		}
		n.Role, n.Votes, n.Leader = 0, nil, m.From
		if m.Kind == 3 {
			sent = slowAppend(&n, m)
		} else {
			sent = slowSnap(&n, m)
		}
	}
	return n, sent
}

func slowVote(n *impl.Node, m impl.Msg) []impl.Msg {
	last, lastTerm := slowLast(*n)
	answer := impl.Msg{Kind: 2, From: n.Id, To: m.From, Term: n.Term}
	asGood := m.LogTerm > lastTerm || m.LogTerm == lastTerm && m.Index >= last
	if m.Term == n.Term && (n.Vote == 0 || n.Vote == m.From) && asGood {
		n.Vote, answer.Ok = m.From, true
	}
	return []impl.Msg{answer}
}

func slowVoted(n *impl.Node, m impl.Msg) []impl.Msg {
	if n.Role != 1 || m.Term != n.Term || !m.Ok {
		return nil
	}
	if !slices.Contains(n.Votes, m.From) {
		n.Votes = append(n.Votes, m.From)
		slices.Sort(n.Votes)
	}
	if slowQuorum(slowConfNow(*n), n.Votes) {
		return slowLead(n)
	}
	return nil
}

func slowAppend(n *impl.Node, m impl.Msg) []impl.Msg {
	answer := impl.Msg{Kind: 4, From: n.Id, To: m.From, Term: n.Term}
	last, _ := slowLast(*n)
	if m.Index < n.Base {
		answer.Ok, answer.Index = true, n.Commit
		return []impl.Msg{answer}
	}
	if m.Index > last || slowTermAt(*n, m.Index) != m.LogTerm {
		answer.Index = last
		if m.Index-1 < last {
			answer.Index = m.Index - 1
		}
		if answer.Index < n.Base {
			answer.Index = n.Base
		}
		return []impl.Msg{answer}
	}
	log := slices.Clone(n.Log)
	ahead := m.LogTerm
	at := m.Index
	for _, e := range m.Entries {
		if e.Term < ahead || e.Term > n.Term {
			return nil
		}
		ahead = e.Term
		at++
		place := int(at - n.Base - 1)
		if place < len(log) && log[place].Term == e.Term {
			continue
		}
		if place < len(log) {
			if at <= n.Commit {
				return nil
			}
			log = log[:place]
		}
		log = append(log, e)
	}
	if len(log) > 500 {
		return nil
	}
	n.Log = log
	if least := min(m.Commit, at); least > n.Commit {
		n.Commit = least
	}
	answer.Ok, answer.Index = true, at
	return []impl.Msg{answer}
}

func slowAppended(n *impl.Node, m impl.Msg) []impl.Msg {
	if n.Role != 2 || m.Term != n.Term {
		return nil
	}
	last, _ := slowLast(*n)
	for i := range n.Peers {
		p := &n.Peers[i]
		switch {
		case p.Id != m.From:
		case m.Ok && m.Index <= last:
			if m.Index > p.Match {
				p.Match = m.Index
			}
			if p.Match+1 > p.Next {
				p.Next = p.Match + 1
			}
			slowCount(n)
		case !m.Ok:
			next := p.Next - 1
			if m.Index < next && m.Index+1 < next {
				next = m.Index + 1
			}
			if next < p.Match+1 {
				next = p.Match + 1
			}
			p.Next = next
			return []impl.Msg{slowBeatFor(*n, *p)}
		}
	}
	return nil
}

func slowSnap(n *impl.Node, m impl.Msg) []impl.Msg {
	answer := impl.Msg{Kind: 4, From: n.Id, To: m.From, Term: n.Term, Ok: true}
	if m.Index <= n.Commit {
		answer.Index = n.Commit
		return []impl.Msg{answer}
	}
	if !slowConfOk(m.Conf) || len(m.Text) > 20000 || m.LogTerm < n.BaseTerm || m.LogTerm > n.Term || m.Index > 1000000000000-500 {
		return nil
	}
	last, _ := slowLast(*n)
	var behind []impl.Entry
	for i, e := range n.Log {
		if m.Index <= last && slowTermAt(*n, m.Index) == m.LogTerm && n.Base+1+int64(i) > m.Index {
			behind = append(behind, e)
		}
	}
	n.Base, n.BaseTerm, n.BaseConf, n.BaseState, n.Log, n.Commit = m.Index, m.LogTerm, copyConf(m.Conf), m.Text, behind, m.Index
	answer.Index = m.Index
	return []impl.Msg{answer}
}

func slowPropose(n impl.Node, kind int64, body string) (impl.Node, int64, int64) {
	if !slowNodeOk(n) {
		return impl.Node{}, 0, impl.PpNode
	}
	n = copyNode(n)
	e := impl.Entry{Term: n.Term, Kind: kind, Body: body}
	last, _ := slowLast(n)
	switch {
	case n.Role != 2:
		return n, 0, impl.PpLeader
	case !slowEntryOk(e):
		return n, 0, impl.PpKind
	case kind == 2 && !slowMayChange(n, body):
		return n, 0, impl.PpConf
	case len(n.Log) == 500:
		return n, 0, impl.PpFull
	}
	n.Log = append(n.Log, e)
	var peers []impl.Peer
	for _, id := range slowOthers(n) {
		p := impl.Peer{Id: id, Next: last + 1}
		for _, old := range n.Peers {
			if old.Id == id {
				p = old
			}
		}
		peers = append(peers, p)
	}
	n.Peers = peers
	slowCount(&n)
	return n, last + 1, impl.PpOk
}

func slowMayChange(n impl.Node, body string) bool {
	for i, e := range n.Log {
		if e.Kind == 2 && n.Base+1+int64(i) > n.Commit {
			return false
		}
	}
	if slowTermAt(n, n.Commit) != n.Term {
		return false
	}
	for kind := int64(1); kind <= 3; kind++ {
		for id := int64(1); id <= 50; id++ {
			if next, code := slowChanged(slowConfNow(n), kind, id); code == 0 && slowConfText(next) == body {
				return true
			}
		}
	}
	return false
}

func slowAgreed(n impl.Node) []impl.Entry {
	if !slowNodeOk(n) {
		return nil
	}
	var agreed []impl.Entry
	for i, e := range n.Log {
		if n.Base+1+int64(i) <= n.Commit {
			agreed = append(agreed, e)
		}
	}
	return agreed
}
