package tests

import (
	"fmt"
	"math"
	"math/rand/v2"
	"slices"
	"strings"
	"testing"

	"loop.example/g00141/impl"
)

// slowCompact is the document's words, one behind the other.
func slowCompact(n impl.Node, upto int64, state string) (impl.Node, int64) {
	if !slowNodeOk(n) {
		return impl.Node{}, 1
	}
	if upto <= n.Base || upto > n.Commit {
		return copyNode(n), 2
	}
	if len(state) > 20000 {
		return copyNode(n), 3
	}
	next := copyNode(n)
	for next.Base < upto {
		e := next.Log[0]
		if e.Kind == 2 {
			next.BaseConf, _ = slowReadConf(e.Body)
		}
		next.Base, next.BaseTerm, next.Log = next.Base+1, e.Term, next.Log[1:]
	}
	next.BaseState = state
	return next, 0
}

func slowEntryAt(n impl.Node, index int64) (impl.Entry, bool) {
	if !slowNodeOk(n) {
		return impl.Entry{}, false
	}
	for i, e := range n.Log {
		if n.Base+1+int64(i) == index {
			return e, true
		}
	}
	return impl.Entry{}, false
}

// indexesOf are the ones of a node, those around them, and some far off.
func indexesOf(n impl.Node) []int64 {
	last, _ := slowLast(n)
	list := []int64{math.MinInt64, math.MinInt64 + 1, -1, 0, 1, n.Base - 1, n.Base, n.Base + 1, n.Base + 2, n.Commit - 1, n.Commit, n.Commit + 1, last - 1, last, last + 1, last + 2, impl.MaxNumber, impl.MaxNumber + 1, math.MaxInt64}
	slices.Sort(list)
	return slices.Compact(list)
}

// atTheEnd tells whether a base leaves too few numbers behind it for a whole log.
func atTheEnd(upto int64) bool {
	return upto > impl.MaxNumber-500
}

// checkCompacted: the last index, the term there, the members now and what is agreed on behind upto are the same, and so is all else that is not of the base.
func checkCompacted(t *testing.T, what string, n, got impl.Node, upto int64, state string) {
	t.Helper()
	if !impl.NodeOk(got) {
		t.Fatalf("%s: not right any more: %+v", what, got)
	}
	last, lastTerm := impl.LastOf(n)
	if index, term := impl.LastOf(got); index != last || term != lastTerm {
		t.Errorf("%s: the last index is %d of term %d, not %d of %d", what, index, term, last, lastTerm)
	}
	if !sameConf(impl.ConfNow(got), impl.ConfNow(n)) {
		t.Errorf("%s: the members now are %+v, not %+v", what, impl.ConfNow(got), impl.ConfNow(n))
	}
	if !slices.Equal(impl.Agreed(got), impl.Agreed(n)[upto-n.Base:]) {
		t.Errorf("%s: agreed on is %+v", what, impl.Agreed(got))
	}
	if got.Base != upto || got.BaseState != state || got.Commit != n.Commit || !slices.Equal(got.Peers, n.Peers) || !slices.Equal(got.Votes, n.Votes) {
		t.Errorf("%s: %+v", what, got)
	}
	for index := n.Base; index <= last+1; index++ {
		before, there := impl.EntryAt(n, index)
		e, ok := impl.EntryAt(got, index)
		if index <= upto && (ok || e != impl.Entry{}) || index > upto && (ok != there || e != before) {
			t.Errorf("%s: at %d is %+v, %v", what, index, e, ok)
		}
	}
}

func checkCompact(t *testing.T, what string, n impl.Node, upto int64, state string) {
	t.Helper()
	got, code := impl.Compact(n, upto, state)
	want, wantCode := slowCompact(n, upto, state)
	if code != wantCode || !sameNode(got, want) {
		t.Fatalf("%s up to %d with %d bytes: %+v, %d, not %+v, %d", what, upto, len(state), got, code, want, wantCode)
	}
	if code == impl.SnOk && !atTheEnd(upto) {
		checkCompacted(t, what, n, got, upto, state)
	}
}

func TestCompactByHand(t *testing.T) {
	for what, n := range map[string]impl.Node{"a follower": aFollower(), "a candidate": aCandidate(), "a leader": aLeader()} {
		want := copyNode(n)
		want.Base, want.BaseTerm, want.BaseState, want.Log = 11, 2, "new", n.Log[1:]
		if got, code := impl.Compact(n, 11, "new"); code != impl.SnOk || !sameNode(got, want) {
			t.Errorf("%s up to 11: %+v, %d", what, got, code)
		}
		want.Base, want.BaseTerm, want.BaseState, want.Log = 12, 3, "", n.Log[2:]
		if got, code := impl.Compact(n, 12, ""); code != impl.SnOk || !sameNode(got, want) {
			t.Errorf("%s up to 12: %+v, %d", what, got, code)
		}
		n.Commit = 14
		want.Base, want.BaseTerm, want.BaseState, want.Log, want.Commit = 14, 5, "all", nil, 14
		if got, code := impl.Compact(n, 14, "all"); code != impl.SnOk || !sameNode(got, want) {
			t.Errorf("%s up to its last index: %+v, %d", what, got, code)
		}
	}
}

func TestCompactCodes(t *testing.T) {
	most, more := strings.Repeat("s", 20000), strings.Repeat("s", 20001)
	wrong := with(aFollower(), func(n *impl.Node) { n.Id = 0 })
	for _, r := range []struct {
		what  string
		n     impl.Node
		upto  int64
		state string
		code  int64
	}{
		{"at Base", aFollower(), 10, "s", impl.SnIndex},
		{"one above Base", aFollower(), 11, "s", impl.SnOk},
		{"at Commit", aFollower(), 12, "s", impl.SnOk},
		{"one above Commit", aFollower(), 13, "s", impl.SnIndex},
		{"at the last index", aFollower(), 14, "s", impl.SnIndex},
		{"above the last index", aFollower(), 15, "s", impl.SnIndex},
		{"below Base", aFollower(), 9, "s", impl.SnIndex},
		{"at 0", aFollower(), 0, "s", impl.SnIndex},
		{"below 0", aFollower(), -1, "s", impl.SnIndex},
		{"the least", aFollower(), math.MinInt64, "s", impl.SnIndex},
		{"the greatest", aFollower(), math.MaxInt64, "s", impl.SnIndex},
		{"nothing agreed on", youngNode(), 0, "s", impl.SnIndex},
		{"nothing agreed on, at 1", youngNode(), 1, "s", impl.SnIndex},
		{"Base and Commit at one", with(aLeader(), func(n *impl.Node) { n.Commit = 10 }), 11, "s", impl.SnIndex},
		{"the first entry of all", leaderAlone(), 1, "s", impl.SnOk},
		{"no state", aFollower(), 11, "", impl.SnOk},
		{"a state of MaxBody bytes", aFollower(), 11, most, impl.SnOk},
		{"a state of one more", aFollower(), 11, more, impl.SnLong},
		{"a state of one more, of a leader", aLeader(), 12, more, impl.SnLong},
		{"a state of one more at Base", aFollower(), 10, more, impl.SnIndex},
		{"a state of one more above Commit", aFollower(), 13, more, impl.SnIndex},
		{"not right", wrong, 11, "s", impl.SnNode},
		{"not right, at Base", wrong, 10, "s", impl.SnNode},
		{"not right, above Commit", wrong, 13, "s", impl.SnNode},
		{"not right, a state of one more", wrong, 11, more, impl.SnNode},
		{"not right, all of it", wrong, 10, more, impl.SnNode},
		{"nothing at all", impl.Node{}, 0, "", impl.SnNode},
	} {
		got, code := impl.Compact(r.n, r.upto, r.state)
		want := r.n
		switch r.code {
		case impl.SnNode:
			want = impl.Node{}
		case impl.SnOk:
			want, _ = slowCompact(r.n, r.upto, r.state)
		}
		if code != r.code || !sameNode(got, want) {
			t.Errorf("%s: %+v, %d", r.what, got, code)
		}
	}
	if impl.SnOk != 0 || impl.SnNode != 1 || impl.SnIndex != 2 || impl.SnLong != 3 || impl.MaxPieces != 2000 {
		t.Error("constants")
	}
}

func TestCompactOfMembers(t *testing.T) {
	follower := with(aFollower(), func(n *impl.Node) {
		n.Log = append(logOf(2), confEntry(3, "v 1 2 l 4"), logOf(3)[0], confEntry(3, "v 1 2 4"), logOf(4)[0], confEntry(5, "v 2 4 l 7"))
		n.Commit = 15
	})
	leader := with(follower, func(n *impl.Node) {
		n.Role, n.Vote, n.Leader = impl.RoLeader, 2, 2
		n.Peers = []impl.Peer{{Id: 4, Next: 16, Match: 15}, {Id: 7, Next: 1}}
	})
	candidate := with(follower, func(n *impl.Node) { n.Role, n.Vote, n.Leader, n.Votes = impl.RoCandidate, 2, 0, []int64{1, 2} })
	for what, n := range map[string]impl.Node{"a follower": follower, "a candidate": candidate, "a leader": leader} {
		for upto, conf := range map[int64]string{11: "v 1 2 3 l 4", 12: "v 1 2 l 4", 13: "v 1 2 l 4", 14: "v 1 2 4", 15: "v 1 2 4"} {
			got, code := impl.Compact(n, upto, "s")
			if code != impl.SnOk || impl.ConfText(got.BaseConf) != conf {
				t.Errorf("%s up to %d: %+v, %d", what, upto, got.BaseConf, code)
			}
			if impl.ConfText(impl.ConfNow(got)) != "v 2 4 l 7" {
				t.Errorf("%s up to %d: members now %+v", what, upto, impl.ConfNow(got))
			}
			checkCompact(t, what, n, upto, "s")
		}
		n.Commit = 16
		if got, code := impl.Compact(n, 16, "s"); code != impl.SnOk || impl.ConfText(got.BaseConf) != "v 2 4 l 7" || len(got.Log) != 0 {
			t.Errorf("%s up to 16: %+v, %d", what, got, code)
		}
	}
}

func TestALeaderTellsASnapshotWherePeersAreBehind(t *testing.T) {
	n := with(aLeader(), func(n *impl.Node) {
		n.Commit = 14
		n.Peers = []impl.Peer{{Id: 1, Next: 13, Match: 12}, {Id: 3, Next: 14, Match: 12}, {Id: 4, Next: 12, Match: 0}}
	})
	got, code := impl.Compact(n, 13, "snap")
	if code != impl.SnOk || !slices.Equal(got.Peers, n.Peers) {
		t.Fatalf("%+v, %d", got, code)
	}
	checkCompacted(t, "a leader", n, got, 13, "snap")
	snap := impl.Msg{Kind: impl.MsSnap, From: 2, Term: 5, Index: 13, LogTerm: 3, Text: "snap", Conf: n.BaseConf}
	one, three := snap, snap
	one.To, three.To = 1, 4
	two := impl.Msg{Kind: impl.MsAppend, From: 2, To: 3, Term: 5, Index: 13, LogTerm: 3, Commit: 14, Entries: n.Log[3:]}
	if sent := impl.Beat(got); !sameMsgs(sent, []impl.Msg{one, two, three}) {
		t.Errorf("%+v", sent)
	}
	for _, m := range impl.Beat(got) {
		young := impl.Node{Id: m.To, BaseConf: n.BaseConf}
		if m.Kind != impl.MsSnap {
			continue
		}
		taken, sent := impl.Receive(young, m)
		if taken.Base != 13 || taken.BaseTerm != 3 || taken.Commit != 13 || taken.BaseState != "snap" || !sameConf(taken.BaseConf, got.BaseConf) || len(sent) != 1 || !sent[0].Ok || sent[0].Index != 13 {
			t.Errorf("%d takes it: %+v, %+v", m.To, taken, sent)
		}
	}
}

func TestCompactOfEachNode(t *testing.T) {
	nodes := rightNodes()
	for what, n := range wrongNodes() {
		nodes[what] = n
	}
	nodes["a follower with all agreed on"] = with(aFollower(), func(n *impl.Node) { n.Log, n.Commit = longLog(500, 4), 510 })
	nodes["a leader with all agreed on"] = with(aLeader(), func(n *impl.Node) { n.Commit = 14 })
	for what, n := range nodes {
		for _, upto := range indexesOf(n) {
			for _, size := range []int{0, 1, 20000, 20001} {
				checkCompact(t, what, n, upto, mixedBytes(size))
			}
		}
	}
}

// The document names no limit of Compact for the base, so its words are done also where the node is not right then.
func TestCompactAtTheEndOfIndexes(t *testing.T) {
	n := rightNodes()["a follower at the end of indexes"]
	got, code := impl.Compact(n, n.Commit, "s")
	want, _ := slowCompact(n, n.Commit, "s")
	if code != impl.SnOk || !sameNode(got, want) || got.Base != impl.MaxNumber-499 || impl.NodeOk(got) {
		t.Errorf("%+v, %d", got, code)
	}
	n = with(n, func(n *impl.Node) { n.Base, n.Commit = impl.MaxNumber-501, impl.MaxNumber-500 })
	got, code = impl.Compact(n, n.Commit, "s")
	if code != impl.SnOk {
		t.Fatal(code)
	}
	checkCompacted(t, "one below", n, got, n.Commit, "s")
}

func TestEntryAt(t *testing.T) {
	n := aFollower()
	for index, body := range map[int64]string{11: "c1", 12: "c2", 13: "c3", 14: "c4"} {
		if e, ok := impl.EntryAt(n, index); !ok || e.Body != body || e.Kind != impl.EnCommand || e.Term != n.Log[index-11].Term {
			t.Errorf("at %d: %+v, %v", index, e, ok)
		}
	}
	for _, index := range []int64{math.MinInt64, math.MinInt64 + 9, math.MinInt64 + 10, math.MinInt64 + 11, -1, 0, 1, 9, 10, 15, 16, math.MaxInt64 - 1, math.MaxInt64} {
		if e, ok := impl.EntryAt(n, index); ok || e != (impl.Entry{}) {
			t.Errorf("at %d: %+v, %v", index, e, ok)
		}
	}
	nodes := rightNodes()
	for what, n := range wrongNodes() {
		nodes[what] = n
	}
	for what, n := range nodes {
		for _, index := range indexesOf(n) {
			want, there := slowEntryAt(n, index)
			if e, ok := impl.EntryAt(n, index); ok != there || e != want {
				t.Errorf("%s at %d: %+v, %v", what, index, e, ok)
			}
		}
	}
}

func TestSnapshotsAgainstTheSlowWay(t *testing.T) {
	r := rand.New(rand.NewPCG(11, 11))
	codes := map[int64]int{}
	for range 4000 {
		n := randomRightNode(r)
		if r.IntN(6) == 0 {
			spoil(r, &n)
		}
		upto := n.Base + r.Int64N(int64(len(n.Log))+2)
		if r.IntN(12) == 0 {
			upto = pick(r, oddNumbers...)
		}
		state := pick(r, "", "s", strings.Repeat("s", 19999+r.IntN(3)))
		checkCompact(t, "at random", n, upto, state)
		got, code := impl.Compact(n, upto, state)
		codes[code]++
		if code == impl.SnOk && upto > n.Base+1 && !atTheEnd(upto) {
			half, _ := impl.Compact(n, n.Base+1, "half")
			if twice, code := impl.Compact(half, upto, state); code != impl.SnOk || !sameNode(twice, got) {
				t.Fatalf("in two steps: %+v, %d, not %+v", twice, code, got)
			}
		}
		if sent := impl.Beat(got); !sameMsgs(sent, slowBeat(got)) {
			t.Fatalf("it sends %+v", sent)
		}
		index := n.Base - 2 + r.Int64N(int64(len(n.Log))+5)
		want, there := slowEntryAt(n, index)
		if e, ok := impl.EntryAt(n, index); ok != there || e != want {
			t.Fatalf("%+v at %d: %+v, %v", n, index, e, ok)
		}
	}
	for code := range int64(4) {
		if codes[code] < 20 {
			t.Errorf("code %d came about %d times", code, codes[code])
		}
	}
}

// rawPiece writes a piece without asking whether it is right.
func rawPiece(place, count int64, data string) string {
	return whole(3, rawNumbers(place, count, int64(len(data)))+data)
}

func slowPieces(text string, size int) []string {
	var parts []string
	for len(text) > size {
		parts, text = append(parts, text[:size]), text[size:]
	}
	if text != "" {
		parts = append(parts, text)
	}
	for place, part := range parts {
		parts[place] = rawPiece(int64(place), int64(len(parts)), part)
	}
	return parts
}

func TestPiecesByHand(t *testing.T) {
	got, ok := impl.Pieces("abcde", 2)
	if want := []string{whole(3, "\x00\x03\x02ab"), whole(3, "\x01\x03\x02cd"), whole(3, "\x02\x03\x01e")}; !ok || !slices.Equal(got, want) {
		t.Errorf("%q, %v", got, ok)
	}
	got, ok = impl.Pieces("abcd", 2)
	if want := []string{whole(3, "\x00\x02\x02ab"), whole(3, "\x01\x02\x02cd")}; !ok || !slices.Equal(got, want) {
		t.Errorf("%q, %v", got, ok)
	}
	for size, want := range map[int64]string{1: "a", 2: "a", 4000: "a"} {
		if got, ok := impl.Pieces("a", size); !ok || !slices.Equal(got, []string{whole(3, "\x00\x01\x01"+want)}) {
			t.Errorf("one byte by %d: %q, %v", size, got, ok)
		}
	}
}

func TestPiecesOfEachSize(t *testing.T) {
	for _, size := range []int64{1, 2, 3, 7, 127, 128, 1000, 3999, 4000} {
		for _, length := range []int64{0, 1, 2, 3, size - 1, size, size + 1, 2*size - 1, 2 * size, 2*size + 1, 5 * size, 5*size + 1, 19999, 20000} {
			if length > 20000 {
				continue
			}
			text := mixedBytes(int(length))
			got, ok := impl.Pieces(text, size)
			if want := slowPieces(text, int(size)); !ok || !slices.Equal(got, want) {
				t.Fatalf("%d bytes by %d: %d pieces, not %d, %v", length, size, len(got), len(want), ok)
			}
			if count := (length + size - 1) / size; int64(len(got)) != count {
				t.Errorf("%d bytes by %d: %d pieces", length, size, len(got))
			}
			checkWholeOf(t, fmt.Sprint(length, " bytes by ", size), got, text)
		}
	}
}

func TestPiecesThatAreRefused(t *testing.T) {
	for _, text := range []string{"", "a", mixedBytes(4000), mixedBytes(20000), mixedBytes(20001), mixedBytes(50000)} {
		for size, right := range map[int64]bool{math.MinInt64: false, -4000: false, -1: false, 0: false, 1: true, 4000: true, 4001: false, 4002: false, 20000: false, math.MaxInt64: false} {
			got, ok := impl.Pieces(text, size)
			if want := right && len(text) <= 20000; ok != want || !ok && len(got) != 0 {
				t.Errorf("%d bytes by %d: %d pieces, %v", len(text), size, len(got), ok)
			}
		}
	}
}

func checkWhole(t *testing.T, what string, pieces []string, text string, right bool) {
	t.Helper()
	got, ok := impl.Whole(pieces)
	if ok != right || right && got != text || !right && got != "" {
		t.Errorf("%s: %d bytes, %v", what, len(got), ok)
	}
}

// checkWholeOf: the text comes back in any order and with some twice, and not where one is missing.
func checkWholeOf(t *testing.T, what string, pieces []string, text string) {
	t.Helper()
	if len(pieces) > 2000 {
		checkWhole(t, what, pieces, "", false)
		return
	}
	checkWhole(t, what, pieces, text, true)
	round := slices.Clone(pieces)
	slices.Reverse(round)
	checkWhole(t, what+" turned round", round, text, true)
	if len(pieces) == 0 {
		return
	}
	half := len(pieces) / 2
	if len(pieces) <= 1000 {
		checkWhole(t, what+" all twice", append(round, pieces...), text, true)
	}
	if len(pieces) < 2000 {
		checkWhole(t, what+" with one twice", append(slices.Clone(pieces), pieces[half]), text, true)
		checkWhole(t, what+" with the first twice", append([]string{pieces[0]}, pieces...), text, true)
	}
	checkWhole(t, what+" from the middle on", append(slices.Clone(pieces[half:]), pieces[:half]...), text, true)
	for _, at := range []int{0, half, len(pieces) - 1} {
		if len(pieces) == 1 {
			break // none are the pieces of the empty text
		}
		checkWhole(t, fmt.Sprint(what, " without ", at), slices.Delete(slices.Clone(pieces), at, at+1), "", false)
		twice := slices.Clone(pieces)
		twice[at] = pieces[(at+1)%len(pieces)]
		checkWhole(t, fmt.Sprint(what, " with another in place of ", at), twice, "", false)
	}
}

func TestWholeOfFew(t *testing.T) {
	a, b, c := rawPiece(0, 3, "ab"), rawPiece(1, 3, "cd"), rawPiece(2, 3, "e")
	for _, r := range []struct {
		what   string
		pieces []string
		text   string
		right  bool
	}{
		{"none", nil, "", true},
		{"an empty list", []string{}, "", true},
		{"in order", []string{a, b, c}, "abcde", true},
		{"turned round", []string{c, b, a}, "abcde", true},
		{"some twice", []string{c, a, a, b, c, a}, "abcde", true},
		{"the first missing", []string{b, c}, "", false},
		{"the middle missing", []string{a, c}, "", false},
		{"the last missing", []string{a, b}, "", false},
		{"one missing, one twice", []string{a, b, b}, "", false},
		{"one alone", []string{a}, "", false},
		{"of one", []string{rawPiece(0, 1, "ab")}, "ab", true},
		{"of one, thrice", []string{rawPiece(0, 1, "ab"), rawPiece(0, 1, "ab"), rawPiece(0, 1, "ab")}, "ab", true},
		{"two that differ", []string{a, b, rawPiece(1, 3, "xx"), c}, "", false},
		{"two that differ, side by side at the end", []string{a, b, c, rawPiece(2, 3, "f")}, "", false},
		{"two that differ, at first", []string{rawPiece(0, 3, "a"), a, b, c}, "", false},
		{"two that differ in length", []string{a, b, c, rawPiece(2, 3, "e\x00")}, "", false},
		{"one more number", []string{a, b, rawPiece(2, 4, "e")}, "", false},
		{"one more number, all there", []string{a, b, rawPiece(2, 4, "e"), rawPiece(3, 4, "f")}, "", false},
		{"a lesser number at first", []string{rawPiece(0, 1, "ab"), a, b, c}, "", false},
		{"a lesser number at the end", []string{a, b, c, rawPiece(0, 1, "ab")}, "", false},
		{"unlike numbers in the middle", []string{a, rawPiece(1, 2, "cd"), c}, "", false},
		{"unlike numbers, and the last one's are there", []string{rawPiece(0, 3, "ab"), rawPiece(1, 2, "cd")}, "", false},
		{"a place that is the number", []string{rawPiece(1, 1, "ab")}, "", false},
		{"a place that is the number, and all others", []string{a, b, c, rawPiece(3, 3, "f")}, "", false},
		{"a place that is the number in place of one", []string{a, b, rawPiece(3, 3, "e")}, "", false},
		{"a place above the number", []string{a, b, c, rawPiece(9, 3, "f")}, "", false},
		{"none of none", []string{rawPiece(0, 0, "")}, "", false},
		{"none of none, with a text", []string{rawPiece(0, 0, "ab")}, "", false},
		{"a great number", []string{rawPiece(0, impl.MaxNumber, "ab")}, "", false},
		{"a number too great", []string{rawPiece(0, impl.MaxNumber+1, "ab")}, "", false},
		{"a place too great", []string{a, b, c, rawPiece(impl.MaxNumber+1, 3, "ab")}, "", false},
		{"unlike sizes", []string{rawPiece(0, 3, "a"), rawPiece(1, 3, "bcd"), rawPiece(2, 3, "ef")}, "abcdef", true},
		{"a last one that is longer", []string{rawPiece(1, 2, "bcd"), rawPiece(0, 2, "a")}, "abcd", true},
	} {
		checkWhole(t, r.what, r.pieces, r.text, r.right)
	}
}

func TestWholeOfPiecesThatAreNone(t *testing.T) {
	a, b := rawPiece(0, 2, "ab"), rawPiece(1, 2, "cd")
	wrong := map[string]string{
		"nothing": "", "a byte": "\x03", "no frame": "abcdefghijk", "a byte behind": b + "x", "a byte 0 behind": b + "\x00", "a frame behind": b + b, "another frame behind": b + a, "a frame ahead": a + b,
		"a byte ahead": "x" + b, "an empty Body": whole(3, ""), "a place alone": whole(3, "\x01"), "no text": whole(3, "\x01\x02"), "a text that is short": whole(3, "\x01\x02\x02c"), "a byte behind the text": whole(3, "\x01\x02\x02cdx"), "a byte 0 behind the text": whole(3, "\x01\x02\x02cd\x00"),
		"a text behind the text": whole(3, "\x01\x02\x02cd\x02cd"), "a place in two bytes": whole(3, "\x81\x00\x02\x02cd"), "a number in two bytes": whole(3, "\x01\x82\x00\x02cd"), "a length in two bytes": whole(3, "\x01\x02\x82\x00cd"),
		"a length too great": whole(3, "\x01\x02"+rawNumbers(20001)+"cd"), "a number that does not end": whole(3, "\x81"),
	}
	for _, kind := range []byte{1, 2, 4, 5, 100} {
		wrong[fmt.Sprint("of the Kind ", kind)] = whole(kind, "\x01\x02\x02cd")
	}
	for i := range len(b) {
		wrong[fmt.Sprint("cut at ", i)] = b[:i]
	}
	for bit := range 8 * len(b) {
		wrong[fmt.Sprint("with the bit ", bit, " turned")] = turnBit(b, bit)
	}
	for what, none := range wrong {
		for order, pieces := range map[string][]string{"alone": {none}, "at the end": {a, none}, "at first": {none, a}, "beside the right one": {a, b, none}, "ahead of the right one": {none, a, b}, "in the middle": {a, none, b}} {
			checkWhole(t, what+", "+order, pieces, "", false)
		}
	}
	checkWhole(t, "both right", []string{a, b}, "abcd", true)
}

func TestWholeOfMany(t *testing.T) {
	text := mixedBytes(2000)
	pieces, _ := impl.Pieces(text, 1)
	checkWholeOf(t, "2000 pieces", pieces, text)
	checkWhole(t, "2000 pieces and one twice", append(slices.Clone(pieces), pieces[0]), "", false)
	checkWhole(t, "1999 pieces and one twice", append(slices.Clone(pieces[:1999]), pieces[0]), "", false)
	more, ok := impl.Pieces(mixedBytes(2001), 1)
	if !ok || len(more) != 2001 {
		t.Fatal(len(more), ok)
	}
	checkWhole(t, "2001 pieces", more, "", false)
	checkWhole(t, "2000 of 2001 pieces", more[:2000], "", false)
	one := rawPiece(0, 1, "x")
	checkWhole(t, "one 2000 times", slices.Repeat([]string{one}, 2000), "x", true)
	checkWhole(t, "one 2001 times", slices.Repeat([]string{one}, 2001), "", false)
	checkWhole(t, "no frame 2001 times", slices.Repeat([]string{""}, 2001), "", false)
	long := mixedBytes(20000)
	for _, size := range []int64{10, 11, 127, 3999, 4000} {
		pieces, _ := impl.Pieces(long, size)
		checkWholeOf(t, fmt.Sprint("MaxBody bytes by ", size), pieces, long)
	}
}

// A rawPart is a piece that is formed, though its place may be none.
type rawPart struct {
	place, count int64
	data         string
}

// slowWhole asks for the causes of the document one by one.
func slowWhole(parts []rawPart) (string, bool) {
	text := ""
	for _, p := range parts {
		for _, q := range parts {
			if p.count != q.count || p.place == q.place && p.data != q.data {
				return "", false
			}
		}
		if p.place >= p.count {
			return "", false
		}
	}
	if len(parts) == 0 {
		return "", true
	}
	for place := range parts[0].count {
		at := slices.IndexFunc(parts, func(p rawPart) bool { return p.place == place })
		if at < 0 {
			return "", false
		}
		text += parts[at].data
	}
	return text, true
}

func TestWholeAgainstTheSlowWay(t *testing.T) {
	r := rand.New(rand.NewPCG(11, 2))
	right, wrong := 0, 0
	for range 20000 {
		count := 1 + r.Int64N(4)
		var parts []rawPart
		for range r.IntN(9) {
			place := r.Int64N(count)
			p := rawPart{place, count, fmt.Sprint("part", place)}
			switch r.IntN(60) {
			case 0:
				p.count += r.Int64N(3) - 1
			case 1:
				p.place = count
			case 2:
				p.data = pick(r, "", "x")
			}
			parts = append(parts, p)
		}
		var pieces []string
		for _, p := range parts {
			pieces = append(pieces, rawPiece(p.place, p.count, p.data))
		}
		text, ok := slowWhole(parts)
		if got, gotOk := impl.Whole(pieces); gotOk != ok || got != text {
			t.Fatalf("%+v: %q, %v, not %q, %v", parts, got, gotOk, text, ok)
		}
		if ok {
			right++
		} else {
			wrong++
		}
	}
	if right < 1000 || wrong < 1000 {
		t.Error(right, wrong)
	}
}

func TestSnapshotAnswersAreTheirOwn(t *testing.T) {
	nodes := rightNodes()
	for what, n := range wrongNodes() {
		nodes[what] = n
	}
	nodes["a leader with all agreed on"] = with(aLeader(), func(n *impl.Node) { n.Commit = 14 })
	nodes["a leader that has members agreed on"] = with(nodes["a leader with a conf"], func(n *impl.Node) { n.Commit = 14 })
	for what, n := range nodes {
		argument := roomyNode(n)
		parts := partsOfNode("the argument", argument)
		for _, upto := range indexesOf(n) {
			for _, state := range []string{"s", mixedBytes(20001)} {
				checkOwn(t, fmt.Sprint("Compact of ", what, " up to ", upto), parts, func() raftAnswer {
					next, _ := impl.Compact(argument, upto, state)
					return raftAnswer{node: next}
				})
			}
			checkOwn(t, fmt.Sprint("EntryAt of ", what, " at ", upto), parts, func() raftAnswer {
				e, _ := impl.EntryAt(argument, upto)
				return raftAnswer{entries: []impl.Entry{e}}
			})
		}
	}
}

// What is appended behind a compacted log writes over nothing of the node that it was made of.
func TestACompactedNodeGoesOnAlone(t *testing.T) {
	n := roomyNode(leaderAlone())
	before := copyNode(n)
	one, _ := impl.Compact(n, 1, "one")
	first, _, code := impl.Propose(one, impl.EnCommand, "first")
	second, _, other := impl.Propose(one, impl.EnCommand, "second")
	if code != impl.PpOk || other != impl.PpOk || first.Log[len(first.Log)-1].Body != "first" || second.Log[len(second.Log)-1].Body != "second" {
		t.Errorf("%+v, %+v", first, second)
	}
	one.Log = append(one.Log, impl.Entry{Term: 2, Kind: 1, Body: "by hand"})
	if !sameNode(n, before) {
		t.Errorf("%+v", n)
	}
}

func TestPieceAnswersAreTheirOwn(t *testing.T) {
	for _, size := range []int64{1, 3, 4000} {
		text := mixedBytes(50)
		pieces, _ := impl.Pieces(text, size)
		want := slices.Clone(pieces)
		scribble(pieces, "changed")
		if again, _ := impl.Pieces(text, size); !slices.Equal(again, want) {
			t.Errorf("by %d: the same text, other pieces", size)
		}
		argument := roomy(want, "spare")
		slices.Reverse(argument)
		watches := []watch{watchOver("the pieces", argument)}
		checkWhole(t, "turned round", argument, text, true)
		checkWhole(t, "but for one", argument[1:], "", size == 4000)
		checkWhole(t, "once more", argument, text, true)
		checkWatches(t, "Whole", watches)
	}
}
