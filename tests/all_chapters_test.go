package tests

import (
	"fmt"
	"go/ast"
	"go/parser"
	"go/token"
	"maps"
	"math"
	"math/rand/v2"
	"path/filepath"
	"reflect"
	"runtime"
	"slices"
	"strings"
	"sync"
	"testing"

	"loop.example/g00141/impl"
)

// Promise 21, of all chapters at once: the same arguments give the same answers, whatever was called before and whatever is called at the same time; nothing is written into an argument; an answer is memory of its own.

// functions are all that the document lists.
func functions() map[string]any {
	return map[string]any{
		"Rotate": impl.Rotate, "Sum": impl.Sum, "Digest": impl.Digest, "DigestOk": impl.DigestOk, "Nibble": impl.Nibble, "Mixed": impl.Mixed,
		"Crc": impl.Crc, "WriteFrame": impl.WriteFrame, "ReadFrames": impl.ReadFrames, "PutNumber": impl.PutNumber, "TakeNumber": impl.TakeNumber, "PutText": impl.PutText, "TakeText": impl.TakeText,
		"RepoOk": impl.RepoOk, "TagOk": impl.TagOk, "ReadRef": impl.ReadRef, "WriteRef": impl.WriteRef, "WriteManifest": impl.WriteManifest, "ReadManifest": impl.ReadManifest, "BlobsOf": impl.BlobsOf,
		"DiskOk": impl.DiskOk, "Do": impl.Do, "Sync": impl.Sync, "Crash": impl.Crash, "ReadFile": impl.ReadFile, "Replace": impl.Replace,
		"JournalOk": impl.JournalOk, "Recover": impl.Recover, "SaveVote": impl.SaveVote, "SaveEntries": impl.SaveEntries, "EntryText": impl.EntryText,
		"StoreOk": impl.StoreOk, "Begin": impl.Begin, "Chunk": impl.Chunk, "Finish": impl.Finish, "Abort": impl.Abort, "GetBlob": impl.GetBlob, "DropBlob": impl.DropBlob, "Keep": impl.Keep, "DigestsOf": impl.DigestsOf, "UsedBy": impl.UsedBy,
		"NodeOf": impl.NodeOf, "Steps": impl.Steps, "Under": impl.Under, "AddTo": impl.AddTo, "CutFrom": impl.CutFrom,
		"NetOk": impl.NetOk, "Post": impl.Post, "Take": impl.Take, "Between": impl.Between, "Cutting": impl.Cutting,
		"ConfOk": impl.ConfOk, "Quorum": impl.Quorum, "ConfText": impl.ConfText, "ReadConf": impl.ReadConf, "Changed": impl.Changed, "Meet": impl.Meet,
		"NodeOk": impl.NodeOk, "NodeNew": impl.NodeNew, "ConfNow": impl.ConfNow, "LastOf": impl.LastOf, "Start": impl.Start, "Beat": impl.Beat, "Receive": impl.Receive, "Propose": impl.Propose, "Agreed": impl.Agreed,
		"Compact": impl.Compact, "Pieces": impl.Pieces, "Whole": impl.Whole, "EntryAt": impl.EntryAt,
		"StateOk": impl.StateOk, "Apply": impl.Apply, "CmdText": impl.CmdText, "ReadCmd": impl.ReadCmd, "StateText": impl.StateText, "ReadState": impl.ReadState, "Needed": impl.Needed, "TagAt": impl.TagAt,
		"WeightOf": impl.WeightOf, "Ranked": impl.Ranked, "Holders": impl.Holders, "Moves": impl.Moves, "Loads": impl.Loads,
		"Plan": impl.Plan, "Carry": impl.Carry, "Spare": impl.Spare,
		"SiteOk": impl.SiteOk, "Sweep": impl.Sweep, "CanSweep": impl.CanSweep, "Done": impl.Done, "Cycle": impl.Cycle, "Unsafe": impl.Unsafe,
		"RequestOk": impl.RequestOk, "WriteRequest": impl.WriteRequest, "ReadRequest": impl.ReadRequest, "WriteResponse": impl.WriteResponse, "ReadResponse": impl.ReadResponse, "ValueOf": impl.ValueOf,
		"ServerOk": impl.ServerOk, "Route": impl.Route, "Serve": impl.Serve,
		"MsgText": impl.MsgText, "ReadMsg": impl.ReadMsg, "ClusterNew": impl.ClusterNew, "ClusterOk": impl.ClusterOk, "Play": impl.Play, "PlayAll": impl.PlayAll,
		"OneLeader": impl.OneLeader, "LogsMatch": impl.LogsMatch, "ChosenKept": impl.ChosenKept, "StatesAlike": impl.StatesAlike, "Replayed": impl.Replayed, "Saved": impl.Saved, "Verdict": impl.Verdict, "HoldersNow": impl.HoldersNow,
		"RunScript": impl.RunScript,
	}
}

func TestAllChaptersAreAskedFor(t *testing.T) {
	files, err := filepath.Glob("../impl/*.go")
	files = slices.DeleteFunc(files, func(name string) bool { return strings.HasSuffix(name, "_test.go") })
	if err != nil || len(files) != 20 {
		t.Fatal(err, files)
	}
	asked, there := functions(), map[string]bool{}
	for _, name := range files {
		file, err := parser.ParseFile(token.NewFileSet(), name, nil, 0)
		if err != nil {
			t.Fatal(err)
		}
		for _, d := range file.Decls {
			if f, ok := d.(*ast.FuncDecl); ok && f.Recv == nil && f.Name.IsExported() {
				there[f.Name.Name] = true
				if asked[f.Name.Name] == nil {
					t.Errorf("%s is not asked for", f.Name.Name)
				}
			}
		}
	}
	if len(there) != len(asked) {
		t.Errorf("%d functions, %d are asked for", len(there), len(asked))
	}
}

// A call is of one function, with arguments that lie in memory with spare room.
type call struct {
	name string
	args []reflect.Value
	said []reflect.Value // what it answered first
}

func (c *call) run() []reflect.Value {
	return reflect.ValueOf(functions()[c.name]).Call(c.args)
}

// callOf takes numbers of any kind where a function wants some, and nil for nothing.
func callOf(name string, args ...any) *call {
	c := &call{name: name}
	kind := reflect.TypeOf(functions()[name])
	for i, arg := range args {
		v := reflect.Zero(kind.In(i))
		if arg != nil {
			v = reflect.ValueOf(arg).Convert(kind.In(i))
		}
		c.args = append(c.args, roomyValue(v))
	}
	return c
}

// chosenCalls are at least one for each function of which it makes something, and for some of them one that is wrong.
func chosenCalls(t *testing.T) []*call {
	t.Helper()
	x := digestOf("x")
	manifest := impl.Manifest{Config: x, Layers: []string{digestOf("y"), x}}
	entry := impl.Entry{Term: 2, Kind: 1, Body: "body"}
	journal := journalDisk(rawVote(2, 1), rawEntries(impl.Entry{Term: 1}, entry))
	disk := busier(journal, 3)
	store := aServer().Site.Store
	set := slices.Sorted(slices.Values([]string{x, digestOf("y"), digestOf("z"), digestOf("a")}))
	net := impl.Net{Next: 9, Packets: []impl.Packet{{Id: 2, From: 1, To: 2, Body: "one"}, {Id: 5, From: 2, To: 1, Body: "two"}, {Id: 7, From: 1, To: 2, Body: "three"}}}
	conf := confOf([]int64{1, 2, 3}, []int64{4, 9})
	state := aState()
	sites := sitesWith("xy/ab/x", state)
	pieces, _ := impl.Pieces("a text in pieces", 5)
	nodes := []int64{1, 2, 3, 9}
	have := [][]string{set[:2], nil, set, set[1:]}
	plan := []impl.Copy{{Digest: digestOf("x"), From: 1, To: 2}, {Digest: digestOf("a"), From: 2, To: 1}, {Digest: digestOf("x"), From: 2, To: 3}}
	stores := storesWith("x/a/", 90)
	request := aRequest()
	busy := busyCluster(t)
	calls := []*call{
		callOf("Rotate", 5, 3), callOf("Sum", "abc"), callOf("Digest", "abc"), callOf("DigestOk", x), callOf("Nibble", x, 3), callOf("Mixed", "a", "b"),
		callOf("Crc", "abc"), callOf("WriteFrame", impl.Frame{Kind: 3, Body: "b"}), callOf("ReadFrames", whole(1, "a")+whole(2, "b")+"x"), callOf("PutNumber", 300), callOf("TakeNumber", rawNumbers(300)+"x"), callOf("PutText", "abc"), callOf("TakeText", rawTexts("abc")+"x"),
		callOf("RepoOk", "a/b"), callOf("TagOk", "v1"), callOf("ReadRef", "a/b:v1@"+x), callOf("WriteRef", impl.Ref{Repo: "a", Tag: "v1", Digest: x}), callOf("WriteManifest", manifest), callOf("ReadManifest", imageOne), callOf("BlobsOf", manifest),
		callOf("DiskOk", disk), callOf("Do", disk, appendOp("b", "data")), callOf("Sync", disk), callOf("Crash", disk, []int64{0, 2}, 0), callOf("ReadFile", disk, "vote"), callOf("Replace", disk, "vote", "new"),
		callOf("JournalOk", impl.Journal{Term: 2, Entries: []impl.Entry{entry}}), callOf("Recover", disk), callOf("SaveVote", disk, 3, 1), callOf("SaveEntries", disk, 2, []impl.Entry{entry, entry}), callOf("SaveEntries", disk, 1, []impl.Entry{entry}), callOf("EntryText", entry),
		callOf("StoreOk", store), callOf("Begin", store), callOf("Chunk", store, 3, 2, "more"), callOf("Finish", store, 9, digestOf("z")), callOf("Abort", store, 4), callOf("GetBlob", store, x), callOf("DropBlob", store, x), callOf("Keep", store, "kept"), callOf("DigestsOf", store), callOf("UsedBy", store),
		callOf("NodeOf", set, "1"), callOf("Steps", set, set[:2]), callOf("Under", set, ""), callOf("AddTo", set[:2], set[3]), callOf("CutFrom", set, set[1]),
		callOf("NetOk", net), callOf("Post", net, 1, 3, "x"), callOf("Take", net, 5, false), callOf("Take", net, 5, true), callOf("Between", net, 1, 2), callOf("Cutting", net, []int64{1, 1, 3}),
		callOf("ConfOk", conf), callOf("Quorum", conf, []int64{1, 2}), callOf("ConfText", conf), callOf("ReadConf", "v 1 2 3 l 4"), callOf("Changed", conf, impl.CnLearn, 7), callOf("Meet", conf, voters(1, 2)),
		callOf("NodeNew", 2, conf), callOf("Pieces", "a text in pieces", 5), callOf("Whole", pieces),
		callOf("StateOk", state), callOf("Apply", state, pinCmd("new")), callOf("Apply", state, of(3, 6, impl.Cmd{Op: impl.CmMark})), callOf("Apply", state, impl.Cmd{Op: impl.CmCondemn}), callOf("CmdText", tagCmd("a", "b", imageOne)), callOf("ReadCmd", rawCmd(pinCmd("a"))), callOf("StateText", state), callOf("ReadState", rawState(state)), callOf("Needed", state), callOf("TagAt", state, "app", "v1"),
		callOf("WeightOf", x, 3), callOf("Ranked", x, nodes), callOf("Holders", x, nodes, 2), callOf("Moves", set, nodes[:2], nodes, 2), callOf("Loads", set, nodes, 2),
		callOf("Plan", set, nodes, have, 2), callOf("Carry", stores, []int64{1, 2, 3}, plan), callOf("Spare", set, nodes, have, 1),
		callOf("SiteOk", sites[0]), callOf("Sweep", sites[0]), callOf("CanSweep", sites[0], x), callOf("Done", sites), callOf("Done", sites[1:2]), callOf("Cycle", sites), callOf("Unsafe", sites[0], state),
		callOf("RequestOk", request), callOf("WriteRequest", request), callOf("ReadRequest", rawRequest(request)), callOf("WriteResponse", withDigest(200, x)), callOf("ReadResponse", rawResponse(withDigest(200, x))), callOf("ValueOf", request.Headers, "host"),
		callOf("ServerOk", aServer()), callOf("Route", impl.Request{Method: "GET", Path: "/v2/a/b/manifests/v1"}), callOf("Serve", aServer(), "POST /v2/a/blobs/uploads/ HTTP/1.1\r\n\r\n"), callOf("Serve", aServer(), "GET /v2/app/tags/list HTTP/1.1\r\n\r\n"), callOf("Serve", aServer(), "DELETE /v2/app/manifests/v1 HTTP/1.1\r\n\r\n"),
		callOf("MsgText", aMsg()), callOf("ReadMsg", rawMsg(aMsg())), callOf("ClusterNew", 3, 2, 100), callOf("PlayAll", busy, manySteps(busy)),
		callOf("HoldersNow", busy, x, 2),
		callOf("Do", disk, removeOp("none")), callOf("Do", busier(journal, 200), appendOp("b", "data")), callOf("Carry", stores, []int64{1, 2, 3}, nil),
		callOf("DiskOk", impl.Disk{Ops: disk.Ops}), callOf("JournalOk", impl.Journal{Term: 1, Entries: []impl.Entry{entry}}), callOf("StateOk", impl.State{Epoch: -1}), callOf("Unsafe", siteWith(1, "x", impl.State{Condemned: []string{x}}), needing("x")),
	}
	for _, n := range []impl.Node{aLeader(), busy.Machines[0].Node, busy.Machines[1].Node, busy.Machines[2].Node} {
		calls = append(calls, callOf("NodeOk", n), callOf("ConfNow", n), callOf("LastOf", n), callOf("Start", n), callOf("Beat", n), callOf("Agreed", n), callOf("Propose", n, impl.EnCommand, "x"), callOf("Propose", n, impl.EnConf, "v 1 2"), callOf("Compact", n, n.Base+1, "state"), callOf("EntryAt", n, n.Base+1))
		for kind := int64(1); kind <= 5; kind++ {
			calls = append(calls, callOf("Receive", n, impl.Msg{Kind: kind, From: 3, To: n.Id, Term: n.Term, Ok: true, Index: n.Base + 2, LogTerm: 1, Entries: []impl.Entry{{Term: n.Term}}, Conf: conf}))
			calls = append(calls, callOf("Receive", n, impl.Msg{Kind: kind, From: 1, To: n.Id, Term: n.Term + 1, Index: n.Base, LogTerm: n.BaseTerm, Entries: []impl.Entry{{Term: n.Term + 1}}, Conf: conf}))
		}
	}
	for _, a := range manySteps(busy) {
		calls = append(calls, callOf("Play", busy, a))
	}
	audited := manyAudited(t)
	for _, what := range slices.Sorted(maps.Keys(audited)) {
		c := audited[what]
		for _, name := range []string{"ClusterOk", "OneLeader", "LogsMatch", "ChosenKept", "StatesAlike", "Replayed", "Saved", "Verdict"} {
			calls = append(calls, callOf(name, c))
		}
		calls = append(calls, callOf("HoldersNow", c, x, 3))
	}
	for _, text := range someScripts() {
		calls = append(calls, callOf("RunScript", text))
	}
	return calls
}

// drawnCalls are of each function, with arguments of the others and such that are mostly wrong, as far as they are of the type that it wants.
func drawnCalls(r *rand.Rand, from []*call, each int) []*call {
	pool := map[reflect.Type][]reflect.Value{}
	add := func(v reflect.Value) { pool[v.Type()] = append(pool[v.Type()], v) }
	for _, c := range from {
		for _, v := range c.args {
			add(v)
			add(reflect.Zero(v.Type()))
		}
	}
	for _, n := range []int64{math.MinInt64, -1, 0, 1, 2, 3, 7, 8, 50, 51, impl.MaxNumber, impl.MaxNumber + 1, math.MaxInt64} {
		add(reflect.ValueOf(n))
	}
	for _, s := range []string{"", "a", "\x00", "\n", strings.Repeat("x", 20001), digestOf("a"), digestOf("x")} {
		add(reflect.ValueOf(s))
	}
	add(reflect.ValueOf([]int64{3, 2, 1}))
	add(reflect.ValueOf([]string{digestOf("x"), digestOf("x")}))
	var calls []*call
	for _, name := range slices.Sorted(maps.Keys(functions())) {
		kind := reflect.TypeOf(functions()[name])
		for range each {
			c := &call{name: name}
			for i := range kind.NumIn() {
				c.args = append(c.args, roomyValue(pick(r, pool[kind.In(i)]...)))
			}
			calls = append(calls, c)
		}
	}
	return calls
}

func allCalls(t *testing.T, each int) []*call {
	t.Helper()
	chosen := chosenCalls(t)
	return append(chosen, drawnCalls(rand.New(rand.NewPCG(21, 21)), chosen, each)...)
}

func spansOfAll(what string, values []reflect.Value) []span {
	var spans []span
	for i, v := range values {
		spans = append(spans, spansOf(fmt.Sprint(what, " ", i), v)...)
	}
	return spans
}

// checkCall: nothing is written into an argument, and the answer shares no memory with one, nor one list of it with another; and when it is written over, the next answer is the same.
func checkCall(t *testing.T, c *call) {
	t.Helper()
	var before []reflect.Value
	for _, v := range c.args {
		before = append(before, wholeValue(v))
	}
	got := c.run()
	given, told := spansOfAll("argument", c.args), spansOfAll("answer", got)
	for i, s := range told {
		for _, other := range append(given, told[:i]...) {
			if s.meets(other) {
				t.Fatalf("%s: %s shares memory with %s", c.name, s.what, other.what)
			}
		}
	}
	runtime.KeepAlive(got)
	c.said = nil
	for _, v := range got {
		c.said = append(c.said, copyValue(v))
		scribbleOver(copyOfHead(v))
	}
	if !sameValues(c.args, before, true) {
		t.Fatalf("%s: an argument is changed", c.name)
	}
	if !sameValues(c.run(), c.said, false) {
		t.Fatalf("%s: the same arguments, another answer", c.name)
	}
	if !sameValues(c.args, before, true) {
		t.Fatalf("%s: an argument is changed by the second call", c.name)
	}
}

// copyOfHead is a value that can be set, with the same lists.
func copyOfHead(v reflect.Value) reflect.Value {
	head := reflect.New(v.Type()).Elem()
	head.Set(v)
	return head
}

func TestAllAnswersAreTheirOwn(t *testing.T) {
	calls := allCalls(t, 60)
	unlike := map[string]map[string]bool{}
	for _, c := range calls {
		checkCall(t, c)
		if unlike[c.name] == nil {
			unlike[c.name] = map[string]bool{}
		}
		text := ""
		for _, v := range c.said {
			text += fmt.Sprintf("%+v;", v.Interface())
		}
		unlike[c.name][text] = true
	}
	for name := range functions() {
		if len(unlike[name]) < 2 {
			t.Errorf("%s: only one answer", name)
		}
	}
	// Whatever was called before, and whatever was done to what it answered, all answers are what they were.
	r := rand.New(rand.NewPCG(12, 21))
	for range 2 {
		r.Shuffle(len(calls), func(i, j int) { calls[i], calls[j] = calls[j], calls[i] })
		for _, c := range calls {
			got := c.run()
			if !sameValues(got, c.said, false) {
				t.Fatalf("%s: another answer later", c.name)
			}
			for _, v := range got {
				scribbleOver(copyOfHead(v))
			}
		}
	}
}

func TestAllAnswersAtTheSameTime(t *testing.T) {
	calls := allCalls(t, 4)
	for _, c := range calls {
		for _, v := range c.run() {
			c.said = append(c.said, copyValue(v))
		}
	}
	var crew sync.WaitGroup
	for worker := range 6 {
		crew.Go(func() {
			r := rand.New(rand.NewPCG(21, uint64(worker)))
			for _, i := range r.Perm(len(calls)) {
				got := calls[i].run()
				if !sameValues(got, calls[i].said, false) {
					t.Errorf("%s: another answer at the same time", calls[i].name)
				}
				for _, v := range got {
					scribbleOver(copyOfHead(v))
				}
			}
		})
	}
	crew.Wait()
}
