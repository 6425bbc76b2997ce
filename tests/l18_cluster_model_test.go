package tests

import (
	"encoding/binary"
	"slices"

	"loop.example/g00141/impl"
)

// The slow way of chapter 18: written from the document's words, one behind the other, beside the program. What it asks of disks and stores it asks of chapters 4 to 6.

// rawMsg is what is written of a message, right or not, but for its Conf.
func rawMsg(m impl.Msg) string {
	ok := int64(0)
	if m.Ok {
		ok = 1
	}
	text := rawNumbers(m.Kind, m.From, m.To, m.Term, m.Index, m.LogTerm, m.Commit, ok) + rawTexts(m.Text, slowConfText(m.Conf)) + rawNumbers(int64(len(m.Entries)))
	for _, e := range m.Entries {
		text += rawTexts(rawEntries(e))
	}
	return text
}

func slowMsgOk(m impl.Msg) bool {
	for _, e := range m.Entries {
		if e.Term < 1 || e.Term > 1000000000000 || e.Kind < 0 || e.Kind > 9 || len(e.Body) > 4000 {
			return false
		}
	}
	return slowNumberOk(m.Kind, m.From, m.To, m.Term, m.Index, m.LogTerm, m.Commit) && len(m.Entries) <= 8 && len(m.Text) <= 20000
}

// A slowReader takes numbers and texts off a text, and holds none of them against what is right.
type slowReader struct {
	text string
	bad  bool
}

func (r *slowReader) number() int64 {
	n, size := binary.Uvarint([]byte(r.text))
	if size <= 0 || n > 1<<62 {
		r.bad = true
		return 0
	}
	r.text = r.text[size:]
	return int64(n)
}

func (r *slowReader) field() string {
	n := r.number()
	if r.bad || n > int64(len(r.text)) {
		r.bad = true
		return ""
	}
	s := r.text[:n]
	r.text = r.text[n:]
	return s
}

func slowReadMsg(text string) (impl.Msg, bool) {
	r := &slowReader{text: text}
	m := impl.Msg{Kind: r.number(), From: r.number(), To: r.number(), Term: r.number(), Index: r.number(), LogTerm: r.number(), Commit: r.number()}
	m.Ok = r.number() == 1
	m.Text = r.field()
	m.Conf, _ = slowReadConf(r.field())
	for count := r.number(); count > 0 && !r.bad; count-- {
		frame := r.field()
		if len(frame) < 9 {
			return impl.Msg{}, false
		}
		inside := &slowReader{text: frame[5 : len(frame)-4]}
		e := impl.Entry{Term: inside.number(), Kind: inside.number(), Body: inside.field()}
		m.Entries = append(m.Entries, e)
	}
	if r.bad || !slowMsgOk(m) || rawMsg(m) != text {
		return impl.Msg{}, false
	}
	return m, true
}

func copyMachine(m impl.Machine) impl.Machine {
	m.Node, m.Store, m.State = copyNode(m.Node), copyStore(m.Store), copyState(m.State)
	m.Disk = impl.Disk{Live: slices.Clone(m.Disk.Live), Safe: slices.Clone(m.Disk.Safe), Ops: slices.Clone(m.Disk.Ops)}
	return m
}

func copyCluster(c impl.Cluster) impl.Cluster {
	next := impl.Cluster{Net: copyNet(c.Net), Leaders: slices.Clone(c.Leaders), Chosen: slices.Clone(c.Chosen)}
	for _, m := range c.Machines {
		next.Machines = append(next.Machines, copyMachine(m))
	}
	return next
}

func sameMachine(a, b impl.Machine) bool {
	return a.Done == b.Done && a.Up == b.Up && sameNode(a.Node, b.Node) && sameDisk(a.Disk, b.Disk) && sameStore(a.Store, b.Store) && sameState(a.State, b.State)
}

func sameCluster(a, b impl.Cluster) bool {
	return slices.EqualFunc(a.Machines, b.Machines, sameMachine) && sameNet(a.Net, b.Net) && slices.Equal(a.Leaders, b.Leaders) && slices.Equal(a.Chosen, b.Chosen)
}

func isZeroCluster(c impl.Cluster) bool {
	return sameCluster(c, impl.Cluster{})
}

func slowClusterOk(c impl.Cluster) bool {
	if len(c.Machines) < 1 || len(c.Machines) > 7 || len(c.Leaders) > 2000 || len(c.Chosen) > 2000 || !impl.NetOk(c.Net) {
		return false
	}
	for i, m := range c.Machines {
		if !slowNodeOk(m.Node) || m.Node.Id != int64(i+1) || m.Node.Base != 0 {
			return false
		}
		if !impl.DiskOk(m.Disk) || !impl.StoreOk(m.Store) || !slowStateOk(m.State) {
			return false
		}
		if m.Done > m.Node.Commit || m.Done < 0 {
			return false
		}
		if !m.Up && (m.Node.Role != 0 || m.Node.Leader != 0) {
			return false
		}
	}
	return true
}

func slowPlay(c impl.Cluster, a impl.Step) (impl.Cluster, int64) {
	if !slowClusterOk(c) {
		return impl.Cluster{}, 1
	}
	s := &slowStage{copyCluster(c), 0, nil}
	code := s.step(a)
	if code == 0 && s.at > 0 {
		code = s.behind(c.Machines[s.at-1].Node)
	}
	if code == 0 && !slowClusterOk(s.Cluster) {
		code = 5
	}
	if code != 0 {
		return copyCluster(c), code
	}
	return s.Cluster, 0
}

// A slowStage is a cluster in which a step is done: at is the machine that did something, 0 when there is none.
type slowStage struct {
	impl.Cluster
	at   int64
	sent []impl.Msg
}

func (s *slowStage) step(a impl.Step) int64 {
	if a.Kind < 1 || a.Kind > 9 {
		return 2
	}
	if a.Kind == 3 || a.Kind == 4 {
		return s.packet(a)
	}
	if a.At < 1 || a.At > int64(len(s.Machines)) {
		return 3
	}
	m := &s.Machines[a.At-1]
	if m.Up == (a.Kind == 8) {
		return 4
	}
	s.at = a.At
	switch a.Kind {
	case 1:
		m.Node, s.sent = slowStart(m.Node)
	case 2:
		s.sent = slowBeat(m.Node)
	case 5:
		if !slowFormed(a.Cmd) {
			return 5
		}
		return s.propose(m, 1, rawCmd(a.Cmd))
	case 6:
		conf, code := slowChanged(slowConfNow(m.Node), a.Op, a.Id)
		if code != 0 {
			return 5
		}
		return s.propose(m, 2, slowConfText(conf))
	case 7:
		m.Up, m.Done, m.State = false, 0, impl.State{}
		m.Node.Role, m.Node.Leader, m.Node.Votes, m.Node.Peers, m.Node.Commit = 0, 0, nil, nil, 0
	case 8:
		m.Up = true
		j, _ := impl.Recover(m.Disk)
		m.Node.Term, m.Node.Vote, m.Node.Log = j.Term, j.Vote, j.Entries
	case 9:
		store, code := impl.Keep(m.Store, a.Cmd.Text)
		if code != 0 {
			return 5
		}
		m.Store = store
	}
	return 0
}

func (s *slowStage) propose(m *impl.Machine, kind int64, body string) int64 {
	node, _, code := slowPropose(m.Node, kind, body)
	if code != 0 {
		return 5
	}
	m.Node = node
	return 0
}

func (s *slowStage) packet(a impl.Step) int64 {
	for i, p := range s.Net.Packets {
		if p.Id != a.Id {
			continue
		}
		if a.Kind == 4 || !a.Keep {
			s.Net.Packets = slices.Delete(s.Net.Packets, i, i+1)
		}
		msg, isMsg := slowReadMsg(p.Body)
		if a.Kind == 3 && isMsg && p.To <= int64(len(s.Machines)) && s.Machines[p.To-1].Up {
			s.at = p.To
			m := &s.Machines[p.To-1]
			m.Node, s.sent = slowReceive(m.Node, msg)
		}
		return 0
	}
	return 5
}

// behind is all that comes behind each step, for the machine that did something.
func (s *slowStage) behind(before impl.Node) int64 {
	m := &s.Machines[s.at-1]
	if !slowNodeOk(m.Node) || m.Node.Base != 0 { // it would leave a cluster that is not right
		return 5
	}
	var code int64
	if m.Node.Term != before.Term || m.Node.Vote != before.Vote {
		if m.Disk, code = impl.SaveVote(m.Disk, m.Node.Term, m.Node.Vote); code != 0 {
			return 5
		}
	}
	if !slices.Equal(m.Node.Log, before.Log) {
		from := 0
		for from < len(m.Node.Log) && from < len(before.Log) && m.Node.Log[from] == before.Log[from] {
			from++
		}
		if m.Disk, code = impl.SaveEntries(m.Disk, int64(from), m.Node.Log[from:]); code != 0 {
			return 5
		}
	}
	for m.Done < m.Node.Commit {
		e := m.Node.Log[m.Done]
		m.Done++
		if cmd, ok := impl.ReadCmd(e.Body); e.Kind == 1 && ok {
			m.State, _ = slowApply(m.State, cmd)
		}
		if m.Done > int64(len(s.Chosen)) {
			s.Chosen = append(s.Chosen, e)
		}
	}
	if before.Role != 2 && m.Node.Role == 2 {
		s.Leaders = append(s.Leaders, impl.Lead{Term: m.Node.Term, Node: s.at})
	}
	for _, msg := range s.sent {
		s.post(msg)
	}
	return 0
}

func (s *slowStage) post(msg impl.Msg) {
	body := rawMsg(msg)
	if msg.To > int64(len(s.Machines)) || len(body) > 20000 || len(s.Net.Packets) == 300 || s.Net.Next == 1000000000000 {
		return
	}
	s.Net.Packets = append(s.Net.Packets, impl.Packet{Id: s.Net.Next, From: msg.From, To: msg.To, Body: body})
	s.Net.Next++
}

func slowPlayAll(c impl.Cluster, list []impl.Step) (impl.Cluster, int64) {
	if !slowClusterOk(c) || len(list) > 300 {
		return impl.Cluster{}, -1
	}
	done := int64(0)
	for _, a := range list {
		next, code := slowPlay(c, a)
		if code == 0 {
			done++
		}
		c = next
	}
	return copyCluster(c), done
}
