package tests

import (
	"fmt"
	"math"
	"slices"
	"strings"
	"sync"
	"testing"

	"loop.example/g00141/impl"
)

// audits are the six, in the order in which Verdict asks for them.
func audits(c impl.Cluster) [6]bool {
	return [6]bool{impl.OneLeader(c), impl.LogsMatch(c), impl.ChosenKept(c), impl.StatesAlike(c), impl.Replayed(c), impl.Saved(c)}
}

// checkAudits: of a right cluster just the audits with these numbers are not so, and Verdict tells the first of them.
func checkAudits(t *testing.T, what string, c impl.Cluster, faults ...int64) {
	t.Helper()
	if !impl.ClusterOk(c) || !slowClusterOk(c) {
		t.Fatalf("%s: not right: %+v", what, c)
	}
	want := [6]bool{true, true, true, true, true, true}
	verdict := int64(0)
	for _, n := range faults {
		want[n-1] = false
		if verdict == 0 || n < verdict {
			verdict = n
		}
	}
	if got := audits(c); got != want {
		t.Errorf("%s: %v, not %v", what, got, want)
	}
	if got := slowAudits(c); got != want {
		t.Errorf("%s: the slow way says %v, not %v", what, got, want)
	}
	if got := impl.Verdict(c); got != verdict || slowVerdict(c) != verdict {
		t.Errorf("%s: the verdict %d, not %d", what, got, verdict)
	}
}

// keeping gives a machine a log, in the term of its last entry, with all of it saved and so many entries agreed on and done.
func keeping(id int64, agreed int64, log ...impl.Entry) func(*impl.Cluster) {
	return machine(id, func(m *impl.Machine) {
		m.Node = impl.Node{Id: id, Vote: 3, BaseConf: m.Node.BaseConf, Log: slices.Clone(log), Commit: agreed}
		if len(log) > 0 {
			m.Node.Term = log[len(log)-1].Term
		}
		m.Disk = journalDisk(rawVote(m.Node.Term, 3), rawEntries(log...))
		m.Done, m.State = agreed, slowDoneBy(log[:agreed])
	})
}

func choosing(entries ...impl.Entry) func(*impl.Cluster) {
	return func(c *impl.Cluster) { c.Chosen = slices.Clone(entries) }
}

func leading(leads ...impl.Lead) func(*impl.Cluster) {
	return func(c *impl.Cluster) { c.Leaders = leads }
}

func commandEntry(term int64, c impl.Cmd) impl.Entry {
	return impl.Entry{Term: term, Kind: impl.EnCommand, Body: rawCmd(c)}
}

// aLog has entries of all kinds: no command, bodies that are none, commands that are refused, and one that is sent again.
func aLog() []impl.Entry {
	return []impl.Entry{
		{Term: 1},
		commandEntry(1, pinCmd("a")),
		commandEntry(1, of(4, 1, pinCmd("b"))),
		{Term: 1, Kind: impl.EnConf, Body: "v 1 2 3 l 4"},
		commandEntry(2, manifestCmd(image("a", "b"))),
		commandEntry(2, tagCmd("app", "v1", image("a", "c"))),
		commandEntry(2, of(4, 1, pinCmd("b"))),
		{Term: 2, Kind: impl.EnCommand, Body: "no command"},
		{Term: 3},
		commandEntry(3, impl.Cmd{Op: impl.CmMark}),
		commandEntry(3, tagCmd("app", "v1", image("a", "b"))),
		commandEntry(3, of(4, 2, untagCmd("app", "v9"))),
	}
}

// auditedCluster is one in which all audits are so; the first two machines have agreed on ten entries of twelve and ten, the third one on four of eleven.
func auditedCluster(t *testing.T) impl.Cluster {
	t.Helper()
	log := aLog()
	return clusterWith(newCluster(t, 3, 3), keeping(1, 10, log...), keeping(2, 10, log[:10]...), keeping(3, 4, log[:11]...), choosing(log[:10]...), leading(impl.Lead{Term: 1, Node: 3}, impl.Lead{Term: 3, Node: 3}))
}

func TestAuditsOfOneThatIsSound(t *testing.T) {
	c := auditedCluster(t)
	checkAudits(t, "all are so", c)
	checkAudits(t, "a new one", newCluster(t, 1, 1))
	checkAudits(t, "a new one of seven", newCluster(t, 7, 4))
	checkAudits(t, "one that leads", ledCluster(t, 3, 2))
	checkAudits(t, "one that has come far", func() impl.Cluster {
		c := play(t, ledCluster(t, 3, 3), command(1, pinCmd("a")), command(1, of(1, 1, pinCmd("a"))), command(1, of(1, 1, pinCmd("a"))), command(1, untagCmd("a", "b")), at(impl.StBeat, 1))
		c = play(t, deliverAll(t, c), at(impl.StBeat, 1), at(impl.StCrash, 2))
		return deliverAll(t, c)
	}())
}

func TestAuditOneLeader(t *testing.T) {
	c := auditedCluster(t)
	for _, r := range []struct {
		what  string
		leads []impl.Lead
		so    bool
	}{
		{"none", nil, true},
		{"one", []impl.Lead{{Term: 4, Node: 2}}, true},
		{"one Term and one Node twice", []impl.Lead{{Term: 4, Node: 2}, {Term: 4, Node: 2}}, true},
		{"one Term and one Node twice, far apart", []impl.Lead{{Term: 4, Node: 2}, {Term: 5, Node: 1}, {Term: 6, Node: 1}, {Term: 4, Node: 2}}, true},
		{"one Node in unlike Terms", []impl.Lead{{Term: 4, Node: 2}, {Term: 5, Node: 2}}, true},
		{"unlike Terms and Nodes", []impl.Lead{{Term: 4, Node: 2}, {Term: 2, Node: 1}, {Term: 3, Node: 3}}, true},
		{"one Term and unlike Nodes", []impl.Lead{{Term: 4, Node: 2}, {Term: 4, Node: 1}}, false},
		{"one Term and unlike Nodes, turned round", []impl.Lead{{Term: 4, Node: 1}, {Term: 4, Node: 2}}, false},
		{"one Term and unlike Nodes, far apart", []impl.Lead{{Term: 4, Node: 2}, {Term: 5, Node: 3}, {Term: 6, Node: 3}, {Term: 4, Node: 1}}, false},
		{"at the end", []impl.Lead{{Term: 1, Node: 1}, {Term: 2, Node: 1}, {Term: 7, Node: 1}, {Term: 7, Node: 3}}, false},
		{"with the same twice ahead", []impl.Lead{{Term: 4, Node: 2}, {Term: 4, Node: 2}, {Term: 4, Node: 3}}, false},
		{"with the same twice behind", []impl.Lead{{Term: 4, Node: 3}, {Term: 4, Node: 2}, {Term: 4, Node: 2}}, false},
		{"a Term of 0", []impl.Lead{{Term: 0, Node: 1}, {Term: 0, Node: 2}}, false},
		{"a Node of 0 ahead", []impl.Lead{{Term: 4, Node: 0}, {Term: 4, Node: 2}}, false},
		{"a Node of 0 behind", []impl.Lead{{Term: 4, Node: 2}, {Term: 4, Node: 0}}, false},
		{"numbers that are none", []impl.Lead{{Term: math.MinInt64, Node: math.MaxInt64}, {Term: math.MinInt64, Node: math.MinInt64}}, false},
		{"machines that are none", []impl.Lead{{Term: 1, Node: 90}, {Term: -1, Node: 91}}, true},
	} {
		if r.so {
			checkAudits(t, r.what, clusterWith(c, leading(r.leads...)))
		} else {
			checkAudits(t, r.what, clusterWith(c, leading(r.leads...)), 1)
		}
	}
	many := make([]impl.Lead, 2000)
	for i := range many {
		many[i] = impl.Lead{Term: int64(i) + 1, Node: 1 + int64(i)%3}
	}
	checkAudits(t, "2000", clusterWith(c, leading(many...)))
	for _, place := range []int{0, 1000, 1998} {
		last := slices.Clone(many)
		last[1999] = impl.Lead{Term: many[place].Term, Node: many[place].Node + 1}
		checkAudits(t, fmt.Sprint("2000, the last one against that at ", place), clusterWith(c, leading(last...)), 1)
	}
}

// logsOf gives each machine a log of which nothing is agreed on.
func logsOf(t *testing.T, logs ...[]impl.Entry) impl.Cluster {
	t.Helper()
	c := newCluster(t, int64(len(logs)), 1)
	for i, log := range logs {
		keeping(int64(i+1), 0, log...)(&c)
	}
	return c
}

// checkLogs asks for two logs, for them turned round, and for each of them with others beside them.
func checkLogs(t *testing.T, what string, a, b []impl.Entry, so bool) {
	t.Helper()
	var faults []int64
	if !so {
		faults = []int64{2}
	}
	for order, logs := range [][][]impl.Entry{{a, b}, {b, a}, {a, a, b}, {a, b, a}, {b, a, a}, {nil, a, b}, {a, nil, b}, {a, b, nil, nil, nil, nil}, {nil, nil, nil, nil, nil, a, b}} {
		checkAudits(t, fmt.Sprint(what, ", order ", order), logsOf(t, logs...), faults...)
	}
}

func changedAt(log []impl.Entry, place int, change func(*impl.Entry)) []impl.Entry {
	log = slices.Clone(log)
	change(&log[place])
	return log
}

func withTerms(log []impl.Entry, terms ...int64) []impl.Entry {
	log = slices.Clone(log)
	for i, term := range terms {
		log[i].Term = term
	}
	return log
}

func TestAuditLogsMatch(t *testing.T) {
	log := []impl.Entry{{Term: 1}, {Term: 1, Kind: 1, Body: "x"}, {Term: 2}, {Term: 3, Kind: 2, Body: "v 1"}, {Term: 3}}
	checkLogs(t, "the same", log, log, true)
	checkLogs(t, "none", nil, nil, true)
	for n := range log {
		checkLogs(t, fmt.Sprint("a beginning of ", n), log, log[:n], true)
	}
	for place := range log {
		checkLogs(t, fmt.Sprint("another Kind at ", place), changedAt(log, place, func(e *impl.Entry) { e.Kind, e.Body = 0, "" }), changedAt(log, place, func(e *impl.Entry) { e.Kind, e.Body = 1, "" }), false)
		checkLogs(t, fmt.Sprint("another Body at ", place), changedAt(log, place, func(e *impl.Entry) { e.Kind, e.Body = 1, "x" }), changedAt(log, place, func(e *impl.Entry) { e.Kind, e.Body = 1, "y" }), false)
		checkLogs(t, fmt.Sprint("another Body at ", place, ", a beginning of the other"), changedAt(log, place, func(e *impl.Entry) { e.Kind, e.Body = 1, "x" }), changedAt(log, place, func(e *impl.Entry) { e.Kind, e.Body = 1, "xx" })[:place+1], false)
		checkLogs(t, fmt.Sprint("another Body at ", place, ", with no Term the same"), changedAt(log, place, func(e *impl.Entry) { e.Kind, e.Body = 1, "x" }), withTerms(changedAt(log, place, func(e *impl.Entry) { e.Kind, e.Body = 1, "y" }), 9, 9, 9, 9, 9), true)
	}
	for _, r := range []struct {
		what  string
		one   []int64
		other []int64
		so    bool
	}{
		{"another Term at the first, the same behind", []int64{2, 2, 2, 3, 3}, []int64{1, 2, 2, 3, 3}, false},
		{"another Term in the middle, the same behind", []int64{1, 1, 2, 3, 3}, []int64{1, 1, 3, 3, 3}, false},
		{"another Term in the middle, the last one the same", []int64{1, 1, 2, 3, 3}, []int64{1, 1, 1, 2, 3}, false},
		{"another Term at the last", []int64{1, 1, 2, 3, 3}, []int64{1, 1, 2, 3, 4}, true},
		{"another Term from the middle on", []int64{1, 1, 2, 3, 3}, []int64{1, 1, 3, 4, 4}, true},
		{"another Term from the first on", []int64{1, 1, 2, 3, 3}, []int64{4, 4, 4, 4, 4}, true},
		{"another Term everywhere but in the middle", []int64{1, 1, 2, 3, 3}, []int64{2, 2, 2, 4, 4}, false},
	} {
		checkLogs(t, r.what, withTerms(log, r.one...), withTerms(log, r.other...), r.so)
	}
	checkLogs(t, "another Term, and the log ends there", log, withTerms(log, 1, 2)[:2], true)
	checkLogs(t, "another Body under an unlike Term, the same behind", log, changedAt(withTerms(log, 1, 1, 1), 1, func(e *impl.Entry) { e.Body = "y" }), false)
	long := slices.Repeat([]impl.Entry{{Term: 1, Kind: 1, Body: "x"}}, 500)
	checkAudits(t, "500 entries", logsOf(t, long, long, long))
	for _, place := range []int{0, 250, 499} {
		checkAudits(t, fmt.Sprint("500 entries, another one at ", place), logsOf(t, long, long, changedAt(long, place, func(e *impl.Entry) { e.Body = "y" })), 2)
	}
	three := [][]impl.Entry{log, log, changedAt(log, 4, func(e *impl.Entry) { e.Kind = 1 })}
	checkAudits(t, "the third one is another", logsOf(t, three...), 2)
	seven := slices.Repeat([][]impl.Entry{log}, 7)
	checkAudits(t, "seven alike", logsOf(t, seven...))
	for i := range seven {
		other := slices.Clone(seven)
		other[i] = three[2]
		checkAudits(t, fmt.Sprint("of seven that at ", i), logsOf(t, other...), 2)
	}
}

func TestAuditChosenKept(t *testing.T) {
	log := []impl.Entry{{Term: 1}, {Term: 1, Kind: 1, Body: "x"}, {Term: 2}, {Term: 2}}
	c := newCluster(t, 3, 3)
	for agreed := range int64(5) {
		for chosen := range int64(7) {
			for id := int64(1); id <= 3; id++ {
				what := fmt.Sprint("machine ", id, ": ", agreed, " agreed on, ", chosen, " chosen")
				list := append(slices.Clone(log), impl.Entry{Term: 5}, impl.Entry{Term: 6})[:chosen]
				kept := clusterWith(c, keeping(id, agreed, log...), choosing(list...))
				if chosen >= agreed {
					checkAudits(t, what, kept)
					continue
				}
				checkAudits(t, what, kept, 3, 5)
				checkAudits(t, what+", not done", clusterWith(kept, machine(id, func(m *impl.Machine) { m.Done, m.State = chosen, impl.State{} })), 3)
			}
		}
		for place := range log {
			for what, change := range map[string]func(*impl.Entry){
				"Term": func(e *impl.Entry) { e.Term += 3 },
				"Kind": func(e *impl.Entry) { e.Kind++ },
				"Body": func(e *impl.Entry) { e.Body += "!" },
				"all":  func(e *impl.Entry) { *e = impl.Entry{} },
			} {
				other := clusterWith(c, keeping(2, agreed, log...), choosing(changedAt(log, place, change)...))
				what = fmt.Sprint("another ", what, " at ", place, " of ", agreed)
				if int64(place) < agreed {
					checkAudits(t, what, other, 3)
				} else {
					checkAudits(t, what, other)
				}
			}
		}
	}
	checkAudits(t, "chosen, and on no machine", clusterWith(c, choosing(log...)))
	checkAudits(t, "of 2000", clusterWith(c, keeping(1, 4, log...), choosing(append(slices.Clone(log), make([]impl.Entry, 1996)...)...)))
	checkAudits(t, "all entries moved by one", clusterWith(c, keeping(1, 2, log...), choosing(log[1:]...)), 3)
	stopped := clusterWith(c, keeping(1, 3, log...), choosing(log[:2]...), machine(1, func(m *impl.Machine) { m.Up, m.Done, m.State = false, 0, impl.State{} }))
	checkAudits(t, "one that is not Up", stopped, 3)
}

func TestAuditStatesAlike(t *testing.T) {
	log := aLog()
	c := auditedCluster(t)
	other := func(s impl.State) func(*impl.Machine) { return func(m *impl.Machine) { m.State = s } }
	behind := slowDoneBy(log[:10])
	checkAudits(t, "one is another", clusterWith(c, machine(2, other(slowDoneBy(log[:9])))), 4, 5)
	checkAudits(t, "one is nothing", clusterWith(c, machine(1, other(impl.State{}))), 4, 5)
	checkAudits(t, "both are the same other", clusterWith(c, machine(1, other(aState())), machine(2, other(aState()))), 5)
	checkAudits(t, "one with a Done of its own is another", clusterWith(c, machine(3, other(aState()))), 5)
	checkAudits(t, "one with a Done of its own is the same", clusterWith(c, machine(3, other(behind))), 5)
	for what, change := range map[string]func(*impl.State){
		"Epoch":            func(s *impl.State) { s.Epoch++ },
		"Manifests":        func(s *impl.State) { s.Manifests = nil },
		"a manifest":       func(s *impl.State) { s.Manifests[0].Until++ },
		"Tags":             func(s *impl.State) { s.Tags = []impl.TagRow{{Repo: "b", Tag: "x", Digest: s.Manifests[0].Digest}} },
		"Blobs":            func(s *impl.State) { s.Blobs = append(s.Blobs, impl.Pin{Digest: "sha256:" + strings.Repeat("f", 64)}) },
		"a blob":           func(s *impl.State) { s.Blobs[1].Until++ },
		"Condemned":        func(s *impl.State) { s.Condemned = []string{digestOf("z")} },
		"Sessions":         func(s *impl.State) { s.Sessions = nil },
		"the Serial there": func(s *impl.State) { s.Sessions[0].Serial++ },
		"the Code there":   func(s *impl.State) { s.Sessions[0].Code++ },
	} {
		for id := int64(1); id <= 2; id++ {
			checkAudits(t, fmt.Sprint(what, " of machine ", id), clusterWith(c, machine(id, func(m *impl.Machine) { change(&m.State) })), 4, 5)
		}
		checkAudits(t, what+" of both", clusterWith(c, machine(1, func(m *impl.Machine) { change(&m.State) }), machine(2, func(m *impl.Machine) { change(&m.State) })), 5)
	}
	checkAudits(t, "empty lists in place of none", clusterWith(c, machine(1, func(m *impl.Machine) { m.State.Condemned, m.State.Tags = []string{}, []impl.TagRow{} })))
	seven := newCluster(t, 7, 7)
	for id := int64(1); id <= 7; id++ {
		keeping(id, 10, log...)(&seven)
	}
	choosing(log...)(&seven)
	checkAudits(t, "seven", seven)
	for id := int64(1); id <= 7; id++ {
		checkAudits(t, fmt.Sprint("of seven machine ", id), clusterWith(seven, machine(id, other(slowDoneBy(log[:11])))), 4, 5)
		checkAudits(t, fmt.Sprint("of seven machine ", id, ", with as much done"), clusterWith(seven, machine(id, func(m *impl.Machine) { m.Node.Commit, m.Done, m.State = 11, 11, slowDoneBy(log[:11]) })))
	}
	checkAudits(t, "the same State with unlike Dones", clusterWith(seven, machine(4, func(m *impl.Machine) { m.Done = 9 })), 5)
}

func TestAuditReplayed(t *testing.T) {
	log := aLog()
	c := newCluster(t, 2, 2)
	whole := clusterWith(c, keeping(1, 12, log...), choosing(log...))
	checkAudits(t, "all of them", whole)
	states := map[string]int{}
	for done := range 13 {
		state := slowDoneBy(log[:done])
		states[rawState(state)] = done
		part := clusterWith(whole, machine(1, func(m *impl.Machine) { m.Done, m.State = int64(done), state }))
		checkAudits(t, fmt.Sprint("the first ", done), part)
		for other := range 13 {
			what := fmt.Sprint("the first ", other, ", and ", done, " are done")
			otherState := slowDoneBy(log[:other])
			mixed := clusterWith(part, machine(1, func(m *impl.Machine) { m.State = otherState }))
			faults := []int64{5}
			if sameState(otherState, state) {
				faults = nil
			}
			if done == 0 && len(faults) > 0 { // the other machine has nothing done, too
				faults = []int64{4, 5}
			}
			checkAudits(t, what, mixed, faults...)
		}
	}
	if len(states) < 7 {
		t.Errorf("only %d unlike states", len(states))
	}
	// What is done hangs on Chosen alone: here no log has it.
	elsewhere := []impl.Entry{commandEntry(1, pinCmd("q"))}
	two := clusterWith(c, keeping(1, 1, log...), choosing(elsewhere...), machine(1, func(m *impl.Machine) { m.State = slowDoneBy(elsewhere) }))
	checkAudits(t, "what the log does not have", two, 3)
	checkAudits(t, "what the log has", clusterWith(c, keeping(1, 2, log...), choosing(log[0], elsewhere[0])), 3, 5)
	for what, e := range map[string]impl.Entry{
		"a command of another Kind":   {Term: 1, Kind: impl.EnNone, Body: rawCmd(pinCmd("q"))},
		"a command of the Kind 2":     {Term: 1, Kind: impl.EnConf, Body: rawCmd(pinCmd("q"))},
		"a command of the Kind 9":     {Term: 1, Kind: 9, Body: rawCmd(pinCmd("q"))},
		"a command with more behind":  {Term: 1, Kind: impl.EnCommand, Body: rawCmd(pinCmd("q")) + "x"},
		"a command that is cut":       {Term: 1, Kind: impl.EnCommand, Body: rawCmd(pinCmd("q"))[:20]},
		"one that is not formed":      {Term: 1, Kind: impl.EnCommand, Body: rawCmd(impl.Cmd{Op: impl.CmMark, Repo: "x"})},
		"a command that is refused":   commandEntry(1, untagCmd("a", "b")),
		"a session's, in a right one": commandEntry(1, of(5, 1, impl.Cmd{Op: impl.CmMark})),
		"an entry that is not right":  {Term: -5, Kind: 77, Body: strings.Repeat("x", 9000)},
		"a command in a wrong Term":   {Term: -5, Kind: impl.EnCommand, Body: rawCmd(pinCmd("q"))},
		"nothing":                     {},
	} {
		chosen := []impl.Entry{commandEntry(1, pinCmd("p")), e, commandEntry(1, pinCmd("r")), e}
		want := slowDoneBy(chosen)
		one := clusterWith(c, keeping(1, 4, log...), choosing(chosen...), machine(1, func(m *impl.Machine) { m.State = want }))
		checkAudits(t, what, one, 3)
		checkAudits(t, what+", not what it does", clusterWith(one, machine(1, func(m *impl.Machine) { m.State = slowDoneBy(chosen[:1]) })), 3, 5)
	}
	for _, state := range []impl.State{{}, slowDoneBy(log[:9]), slowDoneBy(log[:10])} {
		few := clusterWith(c, keeping(1, 10, log...), choosing(log[:9]...), machine(1, func(m *impl.Machine) { m.State = state }))
		checkAudits(t, "more done than were chosen", few, 3, 5)
	}
	checkAudits(t, "done with nothing chosen", clusterWith(c, keeping(1, 1, log...)), 3, 5)
	checkAudits(t, "the second machine", clusterWith(whole, keeping(2, 5, log...), machine(2, func(m *impl.Machine) { m.State = impl.State{Epoch: 1} })), 5)
}

func TestAuditSaved(t *testing.T) {
	log := aLog()
	c := auditedCluster(t)
	disk := func(d impl.Disk) func(*impl.Machine) { return func(m *impl.Machine) { m.Disk = d } }
	vote, text := rawVote(3, 3), rawEntries(log...)
	for _, r := range []struct {
		what string
		disk impl.Disk
		so   bool
	}{
		{"just what it has", journalDisk(vote, text), true},
		{"other files beside it", journalDisk(vote, text, impl.File{Name: "vote.new", Data: "x"}, impl.File{Name: "z"}), true},
		{"not all of it synced", busier(journalDisk(vote, text), 3), true},
		{"not synced, and seen", impl.Disk{Live: journalDisk(vote, text).Live, Ops: []impl.DOp{appendOp("log", text), appendOp("vote", vote)}}, true},
		{"synced, and not seen", impl.Disk{Safe: journalDisk(vote, text).Live, Ops: []impl.DOp{removeOp("log"), removeOp("vote")}}, false},
		{"a torn entry behind", journalDisk(vote, text+rawEntries(log[11])[:9]), true},
		{"an entry of a Term that falls behind", journalDisk(vote, text+rawEntries(log[0])), true},
		{"another Term", journalDisk(rawVote(4, 3), text), false},
		{"a lesser Term", journalDisk(rawVote(2, 3), text), false},
		{"another Vote", journalDisk(rawVote(3, 2), text), false},
		{"no Vote", journalDisk(rawVote(3, 0), text), false},
		{"an entry more", journalDisk(vote, text+rawEntries(log[11])), false},
		{"an entry less", journalDisk(vote, rawEntries(log[:11]...)), false},
		{"the first entry missing", journalDisk(vote, rawEntries(log[1:]...)), false},
		{"another first entry", journalDisk(vote, rawEntries(changedAt(log, 0, func(e *impl.Entry) { e.Kind = 1 })...)), false},
		{"another one in the middle", journalDisk(vote, rawEntries(changedAt(log, 5, func(e *impl.Entry) { e.Body += "x" })...)), false},
		{"another Term of the last one", journalDisk(vote, rawEntries(changedAt(log, 11, func(e *impl.Entry) { e.Term-- })...)), false},
		{"another last one", journalDisk(vote, rawEntries(changedAt(log, 11, func(e *impl.Entry) { e.Body = "" })...)), false},
		{"no log", synced(impl.File{Name: "vote", Data: vote}), false},
		{"no vote", synced(impl.File{Name: "log", Data: text}), false},
		{"nothing", impl.Disk{}, false},
		{"a vote that cannot be read", journalDisk("x", text), false},
		{"an empty vote", journalDisk("", text), false},
		{"two votes", journalDisk(vote+vote, text), false},
		{"a log that cannot be read", journalDisk(vote, "x"+text), false},
	} {
		kept := clusterWith(c, machine(1, disk(r.disk)))
		if r.so {
			checkAudits(t, r.what, kept)
		} else {
			checkAudits(t, r.what, kept, 6)
		}
	}
	for id := int64(1); id <= 3; id++ {
		checkAudits(t, fmt.Sprint("nothing on machine ", id), clusterWith(c, machine(id, disk(impl.Disk{}))), 6)
	}
	// What cannot be read tells nothing, also where nothing is what the machine has.
	fresh := newCluster(t, 2, 2)
	checkAudits(t, "a new one, with a vote that cannot be read", clusterWith(fresh, machine(2, disk(synced(impl.File{Name: "vote", Data: "x"})))), 6)
	checkAudits(t, "a new one, with a vote of nothing", clusterWith(fresh, machine(2, disk(synced(impl.File{Name: "vote", Data: rawVote(0, 0)})))))
	checkAudits(t, "a new one, with an empty log", clusterWith(fresh, machine(2, disk(synced(impl.File{Name: "log"})))))
	checkAudits(t, "a new one, with a Term", clusterWith(fresh, machine(2, disk(synced(impl.File{Name: "vote", Data: rawVote(1, 0)})))), 6)
	checkAudits(t, "one that is not Up", clusterWith(c, machine(1, func(m *impl.Machine) {
		m.Up, m.Node.Commit, m.Done, m.State, m.Disk = false, 0, 0, impl.State{}, impl.Disk{}
	})), 6)
}

// faultsInAll are changes of auditedCluster by each of which just the audit of its number is not so; but that a State unlike others with as much done is not what was chosen, either.
func faultsInAll() [6]func(*impl.Cluster) {
	return [6]func(*impl.Cluster){
		leading(impl.Lead{Term: 2, Node: 1}, impl.Lead{Term: 2, Node: 2}),
		machine(3, func(m *impl.Machine) {
			m.Node.Log[10].Body = "other"
			m.Disk = journalDisk(rawVote(3, 3), rawEntries(m.Node.Log...))
		}),
		func(c *impl.Cluster) { c.Chosen[8].Term = 2 },
		machine(2, func(m *impl.Machine) { m.State.Epoch += 5 }),
		func(c *impl.Cluster) {
			for i := range c.Machines {
				c.Machines[i].State.Epoch++
			}
		},
		machine(1, func(m *impl.Machine) { m.Disk = impl.Disk{} }),
	}
}

func TestAuditVerdictTellsTheFirst(t *testing.T) {
	c := auditedCluster(t)
	firsts := map[int64]int{}
	for set := range 64 {
		spoiled := copyCluster(c)
		var faults []int64
		for i, spoil := range faultsInAll() {
			if set>>i&1 == 1 {
				spoil(&spoiled)
				faults = append(faults, int64(i+1))
			}
		}
		if slices.Contains(faults, 4) && !slices.Contains(faults, 5) {
			faults = append(faults, 5)
		}
		checkAudits(t, fmt.Sprint("not so: ", faults), spoiled, faults...)
		firsts[impl.Verdict(spoiled)]++
	}
	if fmt.Sprint(firsts) != "map[0:1 1:32 2:16 3:8 4:4 5:2 6:1]" {
		t.Error(firsts)
	}
}

func TestAuditsOfOneThatIsNotRight(t *testing.T) {
	all := auditedCluster(t)
	for _, spoil := range faultsInAll() {
		spoil(&all)
	}
	checkAudits(t, "all are not so", all, 1, 2, 3, 4, 5, 6)
	wrong := map[string]impl.Cluster{"nothing": {}}
	for what, change := range map[string]func(*impl.Cluster){
		"no machine":           func(c *impl.Cluster) { c.Machines = nil },
		"eight machines":       func(c *impl.Cluster) { c.Machines = append(c.Machines, newCluster(t, 5, 1).Machines...) },
		"another Id":           machine(2, func(m *impl.Machine) { m.Node.Id = 9 }),
		"a Base":               machine(2, func(m *impl.Machine) { m.Node.Base = 1 }),
		"a node":               machine(3, func(m *impl.Machine) { m.Node.Term = -1 }),
		"a Commit":             machine(1, func(m *impl.Machine) { m.Node.Commit = 13 }),
		"a disk":               machine(1, func(m *impl.Machine) { m.Disk.Live = []impl.File{{Name: "x"}} }),
		"a store":              machine(1, func(m *impl.Machine) { m.Store.Next = 0 }),
		"a state":              machine(1, func(m *impl.Machine) { m.State.Epoch = -1 }),
		"Done above Commit":    machine(3, func(m *impl.Machine) { m.Done = 5 }),
		"Done below 0":         machine(3, func(m *impl.Machine) { m.Done = -1 }),
		"one down that knows":  machine(3, func(m *impl.Machine) { m.Up, m.Node.Leader = false, 1 }),
		"the net":              func(c *impl.Cluster) { c.Net.Next = 0 },
		"2001 Leaders":         leading(make([]impl.Lead, 2001)...),
		"2001 Chosen":          choosing(make([]impl.Entry, 2001)...),
		"all that may be huge": func(c *impl.Cluster) { c.Leaders, c.Chosen = make([]impl.Lead, 90000), make([]impl.Entry, 90000) },
	} {
		wrong[what] = clusterWith(all, change)
		wrong[what+", all else sound"] = clusterWith(auditedCluster(t), change)
	}
	for what, c := range wrong {
		if impl.ClusterOk(c) {
			t.Fatalf("%s is right", what)
		}
		if got := audits(c); got != [6]bool{true, true, true, true, true, true} {
			t.Errorf("%s: %v", what, got)
		}
		if got := impl.Verdict(c); got != 7 || slowVerdict(c) != 7 {
			t.Errorf("%s: the verdict %d", what, got)
		}
		if holders, count := impl.HoldersNow(c, digestOf("x"), 1); holders != nil || count != -1 {
			t.Errorf("%s: holders %v, %d", what, holders, count)
		}
	}
	for what, change := range map[string]func(*impl.Cluster){"2000 Leaders": leading(make([]impl.Lead, 2000)...), "2000 Chosen": choosing(append(aLog(), make([]impl.Entry, 1988)...)...)} {
		checkAudits(t, what, clusterWith(auditedCluster(t), change))
	}
}

// storing puts blobs into the Stores of some machines.
func storing(data string, ids ...int64) func(*impl.Cluster) {
	return func(c *impl.Cluster) {
		for _, id := range ids {
			m := &c.Machines[id-1]
			m.Store, _ = impl.Keep(m.Store, data)
		}
	}
}

func checkHoldersNow(t *testing.T, what string, c impl.Cluster, digest string, k int64) ([]int64, int64) {
	t.Helper()
	holders, count := impl.HoldersNow(c, digest, k)
	want, wantCount := slowHoldersNow(c, digest, k)
	if !slices.Equal(holders, want) || count != wantCount {
		t.Errorf("%s: %v, %d, not %v, %d", what, holders, count, want, wantCount)
	}
	return holders, count
}

func TestAuditHoldersNow(t *testing.T) {
	x := digestOf("x")
	for n := int64(1); n <= 7; n++ {
		c := newCluster(t, n, 1)
		everywhere := clusterWith(c, storing("x", countUp(1, n)...), storing("y", 1))
		for k := int64(1); k <= 7; k++ {
			what := fmt.Sprint(n, " machines, k of ", k)
			holders, count := checkHoldersNow(t, what, c, x, k)
			if count != 0 || int64(len(holders)) != min(k, n) {
				t.Errorf("%s: %v, %d", what, holders, count)
			}
			if _, count := checkHoldersNow(t, what+", all have it", everywhere, x, k); count != min(k, n) {
				t.Errorf("%s, all have it: %d", what, count)
			}
			if _, count := checkHoldersNow(t, what+", all holders have it", clusterWith(c, storing("x", holders...)), x, k); count != min(k, n) {
				t.Errorf("%s, all holders have it: %d", what, count)
			}
			others := slices.DeleteFunc(countUp(1, n), func(id int64) bool { return slices.Contains(holders, id) })
			if _, count := checkHoldersNow(t, what+", others have it", clusterWith(c, storing("x", others...)), x, k); count != 0 {
				t.Errorf("%s, others have it: %d", what, count)
			}
			for some := range holders {
				if _, count := checkHoldersNow(t, fmt.Sprint(what, ", ", some, " holders and all others have it"), clusterWith(c, storing("x", append(others, holders[:some]...)...)), x, k); count != int64(some) {
					t.Errorf("%s: %d of %d have it: %d", what, some, len(holders), count)
				}
			}
		}
		for _, k := range []int64{math.MinInt64, -1, 0, 8, 9, 50, math.MaxInt64} {
			if holders, count := checkHoldersNow(t, "k", everywhere, x, k); holders != nil || count != -1 {
				t.Errorf("%d machines, k of %d: %v, %d", n, k, holders, count)
			}
		}
		for _, digest := range []string{"", "x", x[:70], x + "0", strings.ToUpper(x), x[7:], "sha512:" + x[7:], "sha256:" + strings.Repeat("g", 64)} {
			if holders, count := checkHoldersNow(t, "a digest", everywhere, digest, 1); holders != nil || count != -1 {
				t.Errorf("%d machines, %q: %v, %d", n, digest, holders, count)
			}
		}
	}
	c := clusterWith(ledCluster(t, 3, 2), storing("x", 1, 2, 3), storing("y", 1), storing("", 2))
	for what, change := range map[string]func(*impl.Cluster){
		"nothing":             func(*impl.Cluster) {},
		"machines down":       func(c *impl.Cluster) { *c = play(t, *c, at(impl.StCrash, 1), at(impl.StCrash, 2)) },
		"an audit not so":     leading(impl.Lead{Term: 2, Node: 1}, impl.Lead{Term: 2, Node: 2}),
		"an upload under way": machine(1, func(m *impl.Machine) { m.Store, _, _ = impl.Begin(m.Store) }),
	} {
		for _, data := range []string{"x", "y", "", "z"} {
			for k := int64(1); k <= 4; k++ {
				checkHoldersNow(t, what, clusterWith(c, change), digestOf(data), k)
			}
		}
	}
}

// An auditAnswer is what the calls of chapter 19 answer.
type auditAnswer struct {
	so      [6]bool
	verdict int64
	holders []int64
	count   int64
}

func auditsOf(c impl.Cluster, digest string, k int64) auditAnswer {
	a := auditAnswer{so: audits(c), verdict: impl.Verdict(c)}
	a.holders, a.count = impl.HoldersNow(c, digest, k)
	return a
}

func (a auditAnswer) parts() []part { return []part{partOf("the holders", a.holders, -9)} }

func (a auditAnswer) clone() auditAnswer {
	a.holders = slices.Clone(a.holders)
	return a
}

func (a auditAnswer) same(b auditAnswer) bool {
	return a.so == b.so && a.verdict == b.verdict && a.count == b.count && slices.Equal(a.holders, b.holders)
}

// manyAudited are clusters in which all audits are so, some of them, and none, and ones that are not right.
func manyAudited(t *testing.T) map[string]impl.Cluster {
	t.Helper()
	list := map[string]impl.Cluster{"nothing": {}, "a busy one": busyCluster(t), "a new one": newCluster(t, 7, 7), "a sound one": auditedCluster(t)}
	spoiled := auditedCluster(t)
	for i, spoil := range faultsInAll() {
		list[fmt.Sprint("fault ", i+1)] = clusterWith(auditedCluster(t), spoil, storing("x", 1, 3))
		spoil(&spoiled)
	}
	list["all faults"] = spoiled
	list["a wrong one"] = clusterWith(spoiled, machine(2, func(m *impl.Machine) { m.Done = -1 }))
	return list
}

func TestAuditAnswersAreTheirOwn(t *testing.T) {
	for what, given := range manyAudited(t) {
		c := roomyCluster(given)
		for k := range int64(9) {
			checkOwn(t, fmt.Sprint(what, ", k of ", k), partsOfCluster("the argument", c), func() auditAnswer { return auditsOf(c, digestOf("x"), k) })
		}
	}
}

func TestAuditsAtTheSameTime(t *testing.T) {
	clusters := manyAudited(t)
	first := map[string]auditAnswer{}
	for what, c := range clusters {
		clusters[what] = roomyCluster(c)
		first[what] = auditsOf(c, digestOf("x"), 2)
	}
	var crew sync.WaitGroup
	for range 6 {
		crew.Go(func() {
			for what, c := range clusters {
				if got := auditsOf(c, digestOf("x"), 2); !got.same(first[what]) {
					t.Errorf("%s: another answer at the same time", what)
				}
			}
		})
	}
	crew.Wait()
}
