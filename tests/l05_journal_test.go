package tests

import (
	"encoding/binary"
	"fmt"
	"math"
	"math/rand/v2"
	"slices"
	"strings"
	"testing"

	"loop.example/g00141/impl"
)

// rawNumbers writes numbers without asking whether they are right.
func rawNumbers(numbers ...int64) string {
	var out []byte
	for _, n := range numbers {
		out = binary.AppendUvarint(out, uint64(n))
	}
	return string(out)
}

// whole is a frame whose length is that of its body.
func whole(kind byte, body string) string {
	return rawFrame(kind, uint32(len(body)), body)
}

func rawVote(term, vote int64) string {
	return whole(1, rawNumbers(term, vote))
}

// rawEntries are the frames of entries, one behind the other, right or not.
func rawEntries(entries ...impl.Entry) string {
	text := ""
	for _, e := range entries {
		text += whole(2, rawNumbers(e.Term, e.Kind, int64(len(e.Body)))+e.Body)
	}
	return text
}

// entriesOf are n small entries of a term that can be told apart.
func entriesOf(n int, term int64) []impl.Entry {
	var entries []impl.Entry
	for i := range n {
		entries = append(entries, impl.Entry{Term: term, Kind: int64(i % 10), Body: fmt.Sprint("e", i)})
	}
	return entries
}

func sameJournal(a, b impl.Journal) bool {
	return a.Term == b.Term && a.Vote == b.Vote && slices.Equal(a.Entries, b.Entries)
}

// journalDisk is a synced disk with these files log and vote and others behind.
func journalDisk(vote, log string, others ...impl.File) impl.Disk {
	files := append([]impl.File{{Name: "log", Data: log}, {Name: "vote", Data: vote}}, others...)
	slices.SortFunc(files, func(a, b impl.File) int { return strings.Compare(a.Name, b.Name) })
	return synced(files...)
}

// busier is a disk on which n more ops were done, on a file of their own.
func busier(d impl.Disk, n int) impl.Disk {
	if n == 0 {
		return d
	}
	d.Live = append([]impl.File{{Name: "a", Data: strings.Repeat("x", n)}}, d.Live...)
	for range n {
		d.Ops = append(d.Ops, appendOp("a", "x"))
	}
	return d
}

func checkRecover(t *testing.T, what string, d impl.Disk, want impl.Journal) {
	t.Helper()
	got, ok := impl.Recover(d)
	if !ok || !sameJournal(got, want) {
		t.Errorf("%s: term %d, vote %d, %d entries, %v; wanted %d, %d, %d", what, got.Term, got.Vote, len(got.Entries), ok, want.Term, want.Vote, len(want.Entries))
	}
	if ok && !impl.JournalOk(got) {
		t.Errorf("%s: what is recovered is not right", what)
	}
}

// checkCode holds a disk that was saved to, or not, against what its code asks for.
func checkCode(t *testing.T, what string, before, after impl.Disk, code, want int64) {
	t.Helper()
	if code != want {
		t.Errorf("%s: code %d, not %d", what, code, want)
		return
	}
	switch want {
	case impl.DkOk:
		if len(after.Ops) != 0 || !slices.Equal(after.Live, after.Safe) || !impl.DiskOk(after) {
			t.Errorf("%s: not synced", what)
		}
	case impl.DkDisk:
		if !isZeroDisk(after) {
			t.Errorf("%s: not the zero value", what)
		}
	default:
		if !sameDisk(after, before) {
			t.Errorf("%s: not the disk as it was", what)
		}
	}
}

// checkFiles asks for just these files on a synced disk.
func checkFiles(t *testing.T, what string, d impl.Disk, files ...impl.File) {
	t.Helper()
	if !sameDisk(d, synced(files...)) {
		t.Errorf("%s: %+v, not %+v", what, d, files)
	}
}

var wrongEntries = map[string]impl.Entry{
	"Term 0":               {Kind: 1, Body: "b"},
	"Term -1":              {Term: -1, Kind: 1, Body: "b"},
	"Term above":           {Term: impl.MaxNumber + 1, Kind: 1, Body: "b"},
	"the least Term":       {Term: math.MinInt64, Kind: 1},
	"the greatest Term":    {Term: math.MaxInt64, Kind: 1},
	"Kind -1":              {Term: 1, Kind: -1, Body: "b"},
	"Kind 10":              {Term: 1, Kind: 10, Body: "b"},
	"Kind of another size": {Term: 1, Kind: 1 << 32},
	"Body of 4001 bytes":   {Term: 1, Kind: 1, Body: strings.Repeat("b", 4001)},
	"Body of 20001 bytes":  {Term: 1, Kind: 1, Body: strings.Repeat("b", 20001)},
	"nothing":              {},
}

func rightEntries() []impl.Entry {
	return []impl.Entry{
		{Term: 1},
		{Term: 1, Kind: 9, Body: "b"},
		{Term: 2, Kind: 1, Body: "\x00\xff\n"},
		{Term: 127, Kind: 1, Body: mixedBytes(127)},
		{Term: 128, Kind: 1, Body: mixedBytes(128)},
		{Term: impl.MaxNumber - 1, Kind: 5, Body: mixedBytes(3999)},
		{Term: impl.MaxNumber, Kind: 9, Body: mixedBytes(4000)},
	}
}

func TestJournalOkOfNumbers(t *testing.T) {
	for n, want := range map[int64]bool{
		-1: false, 0: true, 1: true, impl.MaxNumber - 1: true, impl.MaxNumber: true, impl.MaxNumber + 1: false,
		math.MinInt64: false, math.MaxInt64: false,
	} {
		if got := impl.JournalOk(impl.Journal{Term: n}); got != want {
			t.Errorf("Term %d: %v", n, got)
		}
		if got := impl.JournalOk(impl.Journal{Vote: n}); got != want {
			t.Errorf("Vote %d: %v", n, got)
		}
		if got := impl.JournalOk(impl.Journal{Term: n, Vote: n}); got != want {
			t.Errorf("Term and Vote %d: %v", n, got)
		}
	}
}

func TestJournalOkOfEntries(t *testing.T) {
	right := rightEntries()
	if !impl.JournalOk(impl.Journal{Term: impl.MaxNumber, Entries: right}) {
		t.Error("right entries")
	}
	for _, e := range right {
		if !impl.JournalOk(impl.Journal{Term: e.Term, Vote: 3, Entries: []impl.Entry{e}}) {
			t.Errorf("Term %d, Kind %d, %d bytes", e.Term, e.Kind, len(e.Body))
		}
	}
	one := impl.Entry{Term: 1, Kind: 1, Body: "one"}
	for what, e := range wrongEntries {
		for _, list := range [][]impl.Entry{{e}, {one, e}, {e, one}, {one, e, one}} {
			if impl.JournalOk(impl.Journal{Term: impl.MaxNumber, Entries: list}) {
				t.Errorf("%s among %d", what, len(list))
			}
		}
	}
}

func TestJournalOkOfTerms(t *testing.T) {
	for _, r := range []struct {
		term  int64
		terms []int64
		want  bool
	}{
		{0, nil, true},
		{0, []int64{1}, false},
		{1, []int64{1}, true},
		{5, []int64{1}, true},
		{5, []int64{5}, true},
		{5, []int64{6}, false},
		{5, []int64{1, 2, 3, 4, 5}, true},
		{5, []int64{1, 2, 3, 4, 6}, false},
		{5, []int64{6, 5}, false},
		{5, []int64{2, 2, 2}, true},
		{5, []int64{1, 5, 5}, true},
		{5, []int64{2, 1}, false},
		{5, []int64{1, 3, 2}, false},
		{5, []int64{1, 3, 2, 3}, false},
		{5, []int64{3, 1, 2}, false},
		{5, []int64{3, 3, 2}, false},
	} {
		var entries []impl.Entry
		for _, n := range r.terms {
			entries = append(entries, impl.Entry{Term: n})
		}
		if got := impl.JournalOk(impl.Journal{Term: r.term, Entries: entries}); got != r.want {
			t.Errorf("Terms %v in term %d: %v", r.terms, r.term, got)
		}
	}
}

func TestJournalOkOfManyEntries(t *testing.T) {
	for n, want := range map[int]bool{0: true, 499: true, 500: true, 501: false, 2000: false} {
		if got := impl.JournalOk(impl.Journal{Term: 1, Entries: entriesOf(n, 1)}); got != want {
			t.Errorf("%d entries: %v", n, got)
		}
	}
}

func TestEntryText(t *testing.T) {
	for _, e := range rightEntries() {
		if got := impl.EntryText(e); got != rawEntries(e) {
			t.Errorf("Term %d, Kind %d, %d bytes: %q", e.Term, e.Kind, len(e.Body), got)
		}
	}
	if got := impl.EntryText(impl.Entry{Term: 300, Kind: 7, Body: "ab"}); got[:11] != "\x02\x06\x00\x00\x00\xac\x02\x07\x02ab" || len(got) != 15 {
		t.Errorf("by hand: %q", got)
	}
	for what, e := range wrongEntries {
		if got := impl.EntryText(e); got != "" {
			t.Errorf("%s: %q", what, got)
		}
	}
}

func TestRecoverOfTheVote(t *testing.T) {
	log := rawEntries(entriesOf(3, 2)...)
	for _, n := range []int64{0, 1, 2, 127, 128, impl.MaxNumber - 1, impl.MaxNumber} {
		for _, vote := range []int64{0, 1, 300, impl.MaxNumber} {
			want := impl.Journal{Term: n, Vote: vote}
			checkRecover(t, "without a log", synced(impl.File{Name: "vote", Data: rawVote(n, vote)}), want)
			if n >= 2 {
				want.Entries = entriesOf(3, 2)
			}
			checkRecover(t, "with a log", journalDisk(rawVote(n, vote), log), want)
		}
	}
	checkRecover(t, "nothing", impl.Disk{}, impl.Journal{})
	checkRecover(t, "other files", synced(impl.File{Name: "log.new", Data: log}, impl.File{Name: "vote.new", Data: rawVote(1, 1)}), impl.Journal{})
	checkRecover(t, "a log without a vote", synced(impl.File{Name: "log", Data: log}), impl.Journal{})
}

func TestRecoverRefusesVotes(t *testing.T) {
	right := rawVote(2, 1)
	votes := map[string]string{
		"empty":                      "",
		"Kind 2":                     whole(2, rawNumbers(2, 1)),
		"Kind 3":                     whole(3, rawNumbers(2, 1)),
		"Kind 0":                     whole(0, rawNumbers(2, 1)),
		"Kind 101":                   whole(101, rawNumbers(2, 1)),
		"no numbers":                 whole(1, ""),
		"one number":                 whole(1, rawNumbers(2)),
		"three numbers":              whole(1, rawNumbers(2, 1, 0)),
		"a byte behind the numbers":  whole(1, rawNumbers(2, 1)+"\x00"),
		"a text for a number":        whole(1, rawNumbers(2)+"\x01x"),
		"a number that does not end": whole(1, rawNumbers(2)+"\x80"),
		"a number that is too long":  whole(1, rawNumbers(2)+"\x81\x00"),
		"a term above":               rawVote(impl.MaxNumber+1, 1),
		"a vote above":               rawVote(2, impl.MaxNumber+1),
		"a term far above":           rawVote(math.MaxInt64, 1),
		"a vote below 0":             rawVote(2, -1),
		"a byte behind the frame":    right + "\x00",
		"a byte of a frame behind":   right + "\x01",
		"a second frame":             right + right,
		"a second frame of Kind 2":   right + rawEntries(impl.Entry{Term: 1}),
		"a torn second frame":        right + right[:len(right)-1],
		"a frame ahead":              rawEntries(impl.Entry{Term: 1}) + right,
		"a byte ahead":               "\x00" + right,
		"2000 frames":                strings.Repeat(right, 2000),
		"2001 frames":                strings.Repeat(right, 2001),
	}
	for n := range len(right) {
		votes[fmt.Sprint("torn to ", n)] = right[:n]
	}
	for bit := range 8 * len(right) {
		votes[fmt.Sprint("with the bit ", bit)] = turnBit(right, bit)
	}
	for what, vote := range votes {
		for _, d := range []impl.Disk{synced(impl.File{Name: "vote", Data: vote}), journalDisk(vote, rawEntries(entriesOf(3, 1)...))} {
			if j, ok := impl.Recover(d); ok || !sameJournal(j, impl.Journal{}) {
				t.Errorf("a file vote %s: %+v, %v", what, j, ok)
			}
			got, code := impl.SaveVote(d, 9, 1)
			checkCode(t, "SaveVote on a file vote "+what, d, got, code, impl.JnVote)
			got, code = impl.SaveEntries(d, 0, nil)
			checkCode(t, "SaveEntries on a file vote "+what, d, got, code, impl.JnEntries)
		}
	}
}

// badRecords are frames, and what is none, at which a log ends in term 5 behind an entry of term 3.
func badRecords() map[string]string {
	good := rawEntries(impl.Entry{Term: 3, Kind: 1, Body: "good"})
	bad := map[string]string{
		"Kind 1":                    whole(1, rawNumbers(3, 1, 1)+"b"),
		"Kind 3":                    whole(3, rawNumbers(3, 1, 1)+"b"),
		"Kind 0":                    whole(0, rawNumbers(3, 1, 1)+"b"),
		"a vote":                    rawVote(3, 1),
		"an empty body":             whole(2, ""),
		"a term alone":              whole(2, rawNumbers(3)),
		"no text":                   whole(2, rawNumbers(3, 1)),
		"a text that does not end":  whole(2, rawNumbers(3, 1, 5)+"four"),
		"a byte behind the entry":   whole(2, rawNumbers(3, 1, 4)+"four\x00"),
		"an entry behind the entry": whole(2, strings.Repeat(rawNumbers(3, 1, 1)+"b", 2)),
		"a number that is too long": whole(2, "\x83\x00"+rawNumbers(1, 1)+"b"),
		"a term below":              rawEntries(impl.Entry{Term: 2, Kind: 1}),
		"a term above the vote's":   rawEntries(impl.Entry{Term: 6, Kind: 1}),
		"a byte that is none":       "\x00",
		"half of one":               good[:len(good)/2],
		"all but a byte":            good[:len(good)-1],
		"a byte alone":              good[:1],
		"a bit turned over":         turnBit(good, 8*7+3),
	}
	for what, e := range wrongEntries {
		bad["an entry with "+what] = rawEntries(e)
	}
	return bad
}

func TestRecoverEndsAtTheFirstBadRecord(t *testing.T) {
	entries := []impl.Entry{{Term: 1, Kind: 1, Body: "a"}, {Term: 3, Kind: 0, Body: ""}, {Term: 3, Kind: 9, Body: "c"}, {Term: 5, Kind: 2, Body: "d"}}
	for what, bad := range badRecords() {
		for place := range len(entries) + 1 {
			if place < 2 && (what == "a term below") {
				continue
			}
			if place > 3 && strings.HasPrefix(what, "a term above") {
				continue
			}
			log := rawEntries(entries[:place]...) + bad + rawEntries(entries[place:]...)
			d := journalDisk(rawVote(5, 2), log)
			checkRecover(t, fmt.Sprintf("%s at %d", what, place), d, impl.Journal{Term: 5, Vote: 2, Entries: entries[:place]})
		}
	}
	checkRecover(t, "no bad one", journalDisk(rawVote(5, 2), rawEntries(entries...)), impl.Journal{Term: 5, Vote: 2, Entries: entries})
	checkRecover(t, "an empty log", journalDisk(rawVote(5, 2), ""), impl.Journal{Term: 5, Vote: 2})
	for term := range int64(5) {
		n := map[int64]int{0: 0, 1: 1, 2: 1, 3: 3, 4: 3}[term]
		checkRecover(t, "a lesser term of vote", journalDisk(rawVote(term, 0), rawEntries(entries...)), impl.Journal{Term: term, Entries: entries[:n]})
	}
	// An entry above the vote's term ends the log, though one behind it would do.
	checkRecover(t, "up and down", journalDisk(rawVote(2, 0), rawEntries(impl.Entry{Term: 1}, impl.Entry{Term: 3}, impl.Entry{Term: 2})), impl.Journal{Term: 2, Entries: []impl.Entry{{Term: 1}}})
	checkRecover(t, "down and up", journalDisk(rawVote(2, 0), rawEntries(impl.Entry{Term: 2}, impl.Entry{Term: 1}, impl.Entry{Term: 2})), impl.Journal{Term: 2, Entries: []impl.Entry{{Term: 2}}})
}

func TestRecoverOfRightEntries(t *testing.T) {
	right := rightEntries()
	checkRecover(t, "right entries", journalDisk(rawVote(impl.MaxNumber, 0), rawEntries(right...)), impl.Journal{Term: impl.MaxNumber, Entries: right})
}

func TestRecoverOfEveryTornLog(t *testing.T) {
	entries := []impl.Entry{{Term: 1, Kind: 1, Body: "first"}, {Term: 1}, {Term: 2, Kind: 3, Body: mixedBytes(20)}}
	log := rawEntries(entries...)
	for size := range len(log) + 1 {
		n := 0
		for n < len(entries) && len(rawEntries(entries[:n+1]...)) <= size {
			n++
		}
		want := impl.Journal{Term: 2, Vote: 7, Entries: entries[:n]}
		checkRecover(t, fmt.Sprint("torn to ", size), journalDisk(rawVote(2, 7), log[:size]), want)
	}
}

func TestRecoverOfManyFrames(t *testing.T) {
	for _, n := range []int{499, 500, 501, 2000, 2001} {
		entries := entriesOf(n, 1)
		want := impl.Journal{Term: 1, Entries: entries[:min(n, 500)]}
		checkRecover(t, fmt.Sprint(n, " frames"), journalDisk(rawVote(1, 0), rawEntries(entries...)), want)
		checkRecover(t, fmt.Sprint(n, " frames and a torn one"), journalDisk(rawVote(1, 0), rawEntries(entries...)+"\x02"), want)
	}
}

func TestRecoverSeesWhatIsLive(t *testing.T) {
	entries := entriesOf(3, 2)
	d := journalDisk(rawVote(1, 1), rawEntries(impl.Entry{Term: 1}))
	d = done(t, d, removeOp("vote"), appendOp("vote", rawVote(2, 5)), removeOp("log"), appendOp("log", rawEntries(entries...)))
	checkRecover(t, "with ops", d, impl.Journal{Term: 2, Vote: 5, Entries: entries})
}

func brokenDisks(t *testing.T) []impl.Disk {
	right := journalDisk(rawVote(2, 1), rawEntries(entriesOf(2, 1)...))
	disks := []impl.Disk{
		{Live: right.Live},
		{Safe: right.Safe},
		synced(right.Live[1], right.Live[0]),
		{Live: right.Live, Safe: right.Safe, Ops: []impl.DOp{appendOp("log", "x")}},
		busier(right, 201),
	}
	for i, d := range disks {
		if impl.DiskOk(d) {
			t.Fatal("right: ", i)
		}
	}
	return disks
}

func TestJournalsOfDisksThatAreNotRight(t *testing.T) {
	for i, d := range brokenDisks(t) {
		if j, ok := impl.Recover(d); ok || !sameJournal(j, impl.Journal{}) {
			t.Errorf("Recover %d: %+v, %v", i, j, ok)
		}
		for _, r := range []struct{ term, vote int64 }{{3, 1}, {2, 1}, {0, 0}, {-1, 0}, {3, impl.MaxNumber + 1}, {2, 3}} {
			got, code := impl.SaveVote(d, r.term, r.vote)
			checkCode(t, fmt.Sprint("SaveVote ", i), d, got, code, impl.DkDisk)
		}
		for _, from := range []int64{-1, 0, 2, 3} {
			for _, entries := range [][]impl.Entry{nil, entriesOf(1, 1), entriesOf(1, 9), entriesOf(501, 1), {{}}} {
				got, code := impl.SaveEntries(d, from, entries)
				checkCode(t, fmt.Sprint("SaveEntries ", i), d, got, code, impl.DkDisk)
			}
		}
	}
}

func TestSaveVote(t *testing.T) {
	for _, r := range []struct {
		what             string
		oldTerm, oldVote int64
		term, vote       int64
		code             int64
	}{
		{"a lesser term", 5, 0, 4, 0, impl.JnVote},
		{"a lesser term with the same vote", 5, 3, 4, 3, impl.JnVote},
		{"term 0 behind 5", 5, 0, 0, 0, impl.JnVote},
		{"the same", 5, 3, 5, 3, impl.DkOk},
		{"the same without a vote", 5, 0, 5, 0, impl.DkOk},
		{"another vote", 5, 3, 5, 4, impl.JnVote},
		{"a vote that is taken back", 5, 3, 5, 0, impl.JnVote},
		{"a vote where none was", 5, 0, 5, 4, impl.DkOk},
		{"a greater term", 5, 3, 6, 3, impl.DkOk},
		{"a greater term with another vote", 5, 3, 6, 4, impl.DkOk},
		{"a greater term without a vote", 5, 3, 6, 0, impl.DkOk},
		{"a far greater term", 5, 3, impl.MaxNumber, impl.MaxNumber, impl.DkOk},
		{"a term above", 5, 3, impl.MaxNumber + 1, 3, impl.JnVote},
		{"a vote above", 5, 3, 6, impl.MaxNumber + 1, impl.JnVote},
		{"a vote above in the term", 5, 0, 5, impl.MaxNumber + 1, impl.JnVote},
		{"a term below 0", 0, 0, -1, 0, impl.JnVote},
		{"a vote below 0", 5, 3, 6, -1, impl.JnVote},
		{"a vote below 0 in the term", 5, 0, 5, -1, impl.JnVote},
		{"the least numbers", 5, 3, math.MinInt64, math.MinInt64, impl.JnVote},
		{"the greatest numbers", 5, 3, math.MaxInt64, math.MaxInt64, impl.JnVote},
		{"0 and 0 again", 0, 0, 0, 0, impl.DkOk},
		{"a vote in term 0", 0, 0, 0, 9, impl.DkOk},
		{"another vote in term 0", 0, 8, 0, 9, impl.JnVote},
		{"the greatest again", impl.MaxNumber, impl.MaxNumber, impl.MaxNumber, impl.MaxNumber, impl.DkOk},
		{"another behind the greatest", impl.MaxNumber, impl.MaxNumber, impl.MaxNumber, 1, impl.JnVote},
	} {
		entries := entriesOf(2, min(max(r.oldTerm, 1), 5))
		log := impl.File{Name: "log", Data: rawEntries(entries...) + "torn"}
		other := impl.File{Name: "other", Data: "other"}
		d := journalDisk(rawVote(r.oldTerm, r.oldVote), log.Data, other)
		got, code := impl.SaveVote(d, r.term, r.vote)
		checkCode(t, r.what, d, got, code, r.code)
		if r.code != impl.DkOk {
			continue
		}
		checkFiles(t, r.what, got, log, other, impl.File{Name: "vote", Data: rawVote(r.term, r.vote)})
		j, ok := impl.Recover(got)
		if !ok || j.Term != r.term || j.Vote != r.vote {
			t.Errorf("%s: %+v, %v", r.what, j, ok)
		}
	}
}

func TestSaveVoteOnFilesAsTheyCome(t *testing.T) {
	vote := impl.File{Name: "vote", Data: rawVote(7, 2)}
	other := impl.File{Name: "other", Data: "other"}
	for what, d := range map[string]impl.Disk{
		"no vote":                 synced(other),
		"vote.new is there":       synced(other, impl.File{Name: "vote.new", Data: "torn"}),
		"vote.new is empty":       synced(other, impl.File{Name: "vote.new"}),
		"an old vote":             synced(other, impl.File{Name: "vote", Data: rawVote(6, 1)}),
		"both":                    synced(other, impl.File{Name: "vote", Data: rawVote(6, 1)}, impl.File{Name: "vote.new", Data: rawVote(9, 9)}),
		"what was not synced":     done(t, impl.Disk{}, appendOp("other", "oth"), appendOp("other", "er")),
		"an old one that is gone": done(t, synced(other, impl.File{Name: "vote", Data: rawVote(9, 1)}), removeOp("vote")),
	} {
		got, code := impl.SaveVote(d, 7, 2)
		checkCode(t, what, d, got, code, impl.DkOk)
		checkFiles(t, what, got, other, vote)
	}
	got, code := impl.SaveVote(impl.Disk{}, 0, 0)
	checkCode(t, "0 and 0 on nothing", impl.Disk{}, got, code, impl.DkOk)
	checkFiles(t, "0 and 0 on nothing", got, impl.File{Name: "vote", Data: rawVote(0, 0)})
}

func TestSaveVoteWithoutRoom(t *testing.T) {
	old, size := rawVote(2, 1), len(rawVote(3, 1))
	fat := func(n int) impl.File { return impl.File{Name: "fat", Data: strings.Repeat("x", n)} }
	vote := impl.File{Name: "vote", Data: old}
	fresh := impl.File{Name: "vote.new", Data: "torn"}
	for _, r := range []struct {
		what string
		d    impl.Disk
		code int64
	}{
		{"198 ops", busier(synced(vote), 198), impl.DkOk},
		{"199 ops", busier(synced(vote), 199), impl.DkFull},
		{"200 ops", busier(synced(vote), 200), impl.DkFull},
		{"197 ops, with vote.new", busier(synced(vote, fresh), 197), impl.DkOk},
		{"198 ops, with vote.new", busier(synced(vote, fresh), 198), impl.DkFull},
		{"59 files", synced(append(filesOf(58, ""), vote)...), impl.DkOk},
		{"60 files", synced(append(filesOf(59, ""), vote)...), impl.DkFull},
		{"59 files, none of them vote", synced(filesOf(59, "")...), impl.DkOk},
		{"60 files, none of them vote", synced(filesOf(60, "")...), impl.DkFull},
		{"60 files, with vote.new", synced(append(filesOf(58, ""), vote, fresh)...), impl.DkOk},
		{"just the bytes", synced(fat(200000 - size)), impl.DkOk},
		{"a byte too many", synced(fat(200001 - size)), impl.DkFull},
		{"just the bytes beside the old", synced(fat(200000-size-len(old)), vote), impl.DkOk},
		{"a byte too many beside the old", synced(fat(200001-size-len(old)), vote), impl.DkFull},
	} {
		if !impl.DiskOk(r.d) {
			t.Fatal(r.what)
		}
		got, code := impl.SaveVote(r.d, 3, 1)
		checkCode(t, r.what, r.d, got, code, r.code)
		if r.code == impl.DkFull { // what JnVote asks for comes ahead
			for _, v := range []struct{ term, vote int64 }{{-1, 0}, {3, -1}, {impl.MaxNumber + 1, 0}, {3, impl.MaxNumber + 1}} {
				got, code := impl.SaveVote(r.d, v.term, v.vote)
				checkCode(t, r.what+" and a number", r.d, got, code, impl.JnVote)
			}
		}
	}
	full := busier(synced(vote), 200)
	for _, v := range []struct{ term, vote int64 }{{1, 1}, {2, 2}, {2, 0}} {
		got, code := impl.SaveVote(full, v.term, v.vote)
		checkCode(t, "200 ops and an old vote", full, got, code, impl.JnVote)
	}
	unread := busier(synced(impl.File{Name: "vote", Data: "x"}), 200)
	got, code := impl.SaveVote(unread, 3, 1)
	checkCode(t, "200 ops and a vote that is none", unread, got, code, impl.JnVote)
}

func TestSaveEntries(t *testing.T) {
	old := entriesOf(4, 2)
	fresh := []impl.Entry{{Term: 2, Kind: 5, Body: "new"}, {Term: 3, Kind: 6, Body: ""}}
	vote := impl.File{Name: "vote", Data: rawVote(3, 1)}
	stray := impl.File{Name: "log.new", Data: "stray"}
	for _, r := range []struct {
		what    string
		end     string // what stands behind the entries in the file log
		from    int64
		entries []impl.Entry
		code    int64
		stays   bool // log.new, as nothing is replaced
	}{
		{"below 0", "", -1, fresh, impl.JnEntries, false},
		{"far below 0", "", math.MinInt64, fresh, impl.JnEntries, false},
		{"at 0", "", 0, fresh, impl.DkOk, false},
		{"in the middle", "", 2, fresh, impl.DkOk, false},
		{"at the last one", "", 3, fresh, impl.DkOk, false},
		{"at the end", "", 4, fresh, impl.DkOk, true},
		{"one more", "", 5, fresh, impl.JnEntries, false},
		{"far above", "", math.MaxInt64, fresh, impl.JnEntries, false},
		{"of another size", "", 1 << 32, fresh, impl.JnEntries, false},
		{"none, below 0", "", -1, nil, impl.JnEntries, false},
		{"none, at 0", "", 0, nil, impl.DkOk, false},
		{"none, in the middle", "", 2, nil, impl.DkOk, false},
		{"none, at the end", "", 4, nil, impl.DkOk, true},
		{"none, one more", "", 5, nil, impl.JnEntries, false},
		{"torn, below 0", "torn", -1, fresh, impl.JnEntries, false},
		{"torn, at 0", "torn", 0, fresh, impl.DkOk, false},
		{"torn, in the middle", "torn", 2, fresh, impl.DkOk, false},
		{"torn, at the end", "torn", 4, fresh, impl.DkOk, false},
		{"torn, one more", "torn", 5, fresh, impl.JnEntries, false},
		{"torn, none, at the end", "torn", 4, nil, impl.DkOk, false},
		{"torn by a byte", "\x02", 4, fresh, impl.DkOk, false},
		{"behind it one of a term above", rawEntries(impl.Entry{Term: 4}), 4, fresh, impl.DkOk, false},
		{"one more, where that is of a term above", rawEntries(impl.Entry{Term: 4}), 5, fresh, impl.JnEntries, false},
		{"behind it one of a term below", rawEntries(impl.Entry{Term: 1}), 4, nil, impl.DkOk, false},
		{"behind it a vote", rawVote(3, 1), 4, fresh, impl.DkOk, false},
	} {
		d := synced(impl.File{Name: "log", Data: rawEntries(old...) + r.end}, stray, vote)
		got, code := impl.SaveEntries(d, r.from, r.entries)
		checkCode(t, r.what, d, got, code, r.code)
		if r.code != impl.DkOk {
			continue
		}
		all := slices.Concat(old[:r.from], r.entries)
		files := []impl.File{{Name: "log", Data: rawEntries(all...)}, stray, vote}
		if !r.stays {
			files = slices.Delete(files, 1, 2)
		}
		checkFiles(t, r.what, got, files...)
		checkRecover(t, r.what, got, impl.Journal{Term: 3, Vote: 1, Entries: all})
	}
}

func TestSaveEntriesOnFilesAsTheyCome(t *testing.T) {
	one := []impl.Entry{{Term: 1, Kind: 1, Body: "one"}}
	log, vote := impl.File{Name: "log", Data: rawEntries(one...)}, impl.File{Name: "vote", Data: rawVote(1, 0)}
	stray := impl.File{Name: "log.new", Data: "stray"}
	for _, r := range []struct {
		what    string
		d       impl.Disk
		from    int64
		entries []impl.Entry
		files   []impl.File
	}{
		{"no log", synced(vote), 0, one, []impl.File{log, vote}},
		{"no log, but log.new", synced(stray, vote), 0, one, []impl.File{log, stray, vote}},
		{"an empty log", synced(impl.File{Name: "log"}, vote), 0, one, []impl.File{log, vote}},
		{"a log of what is no frame", synced(impl.File{Name: "log", Data: "none"}, stray, vote), 0, one, []impl.File{log, vote}},
		{"no log and no entries", synced(stray, vote), 0, nil, []impl.File{stray, vote}},
		{"an empty log and no entries", synced(impl.File{Name: "log"}, vote), 0, nil, []impl.File{{Name: "log"}, vote}},
		{"no entries, all taken back", synced(log, vote), 0, nil, []impl.File{{Name: "log"}, vote}},
		{"no entries, with what was not synced", done(t, synced(vote), appendOp("log", log.Data)), 1, nil, []impl.File{log, vote}},
		{"what was not synced", done(t, synced(vote), appendOp("a", "1"), removeOp("a"), appendOp("z", "2")), 0, one, []impl.File{log, vote, {Name: "z", Data: "2"}}},
		{"nothing at all", impl.Disk{}, 0, nil, nil},
		{"a log that was not synced, and log.new", done(t, synced(stray, vote), appendOp("log", log.Data)), 1, one, []impl.File{{Name: "log", Data: log.Data + log.Data}, stray, vote}},
		{"a log that is gone since, and log.new", done(t, synced(log, stray, vote), removeOp("log")), 0, one, []impl.File{log, stray, vote}},
		{"a log that was torn and is whole since", done(t, synced(impl.File{Name: "log", Data: log.Data[:3]}, stray, vote), appendOp("log", log.Data[3:])), 1, nil, []impl.File{log, stray, vote}},
	} {
		got, code := impl.SaveEntries(r.d, r.from, r.entries)
		checkCode(t, r.what, r.d, got, code, impl.DkOk)
		checkFiles(t, r.what, got, r.files...)
	}
}

func TestSaveEntriesThatAreNotRight(t *testing.T) {
	old := entriesOf(3, 2)
	disks := map[string]impl.Disk{
		"a whole log": journalDisk(rawVote(5, 1), rawEntries(old...)),
		"a torn log":  journalDisk(rawVote(5, 1), rawEntries(old...)+"torn"),
		"200 ops":     busier(journalDisk(rawVote(5, 1), rawEntries(old...)), 200),
		"60 files":    journalDisk(rawVote(5, 1), rawEntries(old...), filesOf(58, "")...),
		"full":        journalDisk(rawVote(5, 1), rawEntries(old...), impl.File{Name: "f", Data: strings.Repeat("x", 199900)}),
	}
	refused := func(what string, d impl.Disk, from int64, entries ...impl.Entry) {
		t.Helper()
		got, code := impl.SaveEntries(d, from, entries)
		checkCode(t, what, d, got, code, impl.JnEntries)
	}
	right := impl.Entry{Term: 2, Kind: 1, Body: "right"}
	for where, d := range disks {
		if !impl.DiskOk(d) {
			t.Fatal(where)
		}
		for what, e := range wrongEntries {
			for from := range int64(4) {
				refused(where+", "+what, d, from, e)
				refused(where+", "+what+" behind", d, from, right, e)
				refused(where+", "+what+" ahead", d, from, e, right)
			}
		}
		refused(where+", a term below", d, 3, impl.Entry{Term: 1})
		refused(where+", a term below at 1", d, 1, impl.Entry{Term: 1})
		refused(where+", terms that fall", d, 0, impl.Entry{Term: 3}, impl.Entry{Term: 2})
		refused(where+", a term above", d, 3, impl.Entry{Term: 6})
		refused(where+", a term above at 0", d, 0, impl.Entry{Term: 6})
		refused(where+", 501 entries", d, 0, entriesOf(501, 2)...)
		refused(where+", 500 entries behind one", d, 1, entriesOf(500, 2)...)
		refused(where+", 498 entries behind three", d, 3, entriesOf(498, 2)...)
		refused(where+", below 0", d, -1, right)
		refused(where+", above", d, 4, right)
		refused(where+", above without entries", d, 4)
		refused(where+", below 0 with a wrong entry", d, -1, impl.Entry{})
	}
	d := journalDisk(rawVote(5, 1), rawEntries(old...))
	for _, r := range []struct {
		from    int64
		entries []impl.Entry
	}{{0, []impl.Entry{{Term: 1}}}, {3, []impl.Entry{{Term: 2}}}, {3, []impl.Entry{{Term: 5}}}, {1, []impl.Entry{{Term: 2}, {Term: 5}}}} {
		got, code := impl.SaveEntries(d, r.from, r.entries)
		checkCode(t, "terms at the edge", d, got, code, impl.DkOk)
		checkRecover(t, "terms at the edge", got, impl.Journal{Term: 5, Vote: 1, Entries: slices.Concat(old[:r.from], r.entries)})
	}
	unborn := synced(impl.File{Name: "log", Data: rawEntries(impl.Entry{Term: 1})})
	refused("no vote, so term 0", unborn, 0, impl.Entry{Term: 1})
	refused("no vote, so no entries", unborn, 1)
}

func TestSaveEntriesWithoutRoom(t *testing.T) {
	old := entriesOf(3, 1)
	fresh := []impl.Entry{{Term: 1, Kind: 1, Body: "fresh"}, {Term: 1, Kind: 2, Body: "fresher"}}
	log, vote := rawEntries(old...), rawVote(1, 0)
	disk := journalDisk(vote, log)
	torn := journalDisk(vote, log+"torn")
	bare := synced(impl.File{Name: "vote", Data: vote})
	stray := journalDisk(vote, log, impl.File{Name: "log.new", Data: "stray"})
	fat := func(n int) impl.File { return impl.File{Name: "fat", Data: strings.Repeat("x", n-len(vote)-len(log))} }
	more, all := len(rawEntries(fresh...)), len(rawEntries(append(slices.Clone(old), fresh...)...))
	for _, r := range []struct {
		what string
		d    impl.Disk
		from int64
		code int64
	}{
		{"behind, 198 ops", busier(disk, 198), 3, impl.DkOk},
		{"behind, 199 ops", busier(disk, 199), 3, impl.DkFull},
		{"behind, 200 ops", busier(disk, 200), 3, impl.DkFull},
		{"behind, 198 ops, with log.new", busier(stray, 198), 3, impl.DkOk},
		{"replaced, 198 ops", busier(disk, 198), 2, impl.DkOk},
		{"replaced, 199 ops", busier(disk, 199), 2, impl.DkFull},
		{"replaced, 200 ops", busier(disk, 200), 0, impl.DkFull},
		{"replaced, 197 ops, with log.new", busier(stray, 197), 2, impl.DkOk},
		{"replaced, 198 ops, with log.new", busier(stray, 198), 2, impl.DkFull},
		{"torn, 198 ops", busier(torn, 198), 3, impl.DkOk},
		{"torn, 199 ops", busier(torn, 199), 3, impl.DkFull},
		{"behind, 60 files", journalDisk(vote, log, filesOf(58, "")...), 3, impl.DkOk},
		{"replaced, 59 files", journalDisk(vote, log, filesOf(57, "")...), 2, impl.DkOk},
		{"replaced, 60 files", journalDisk(vote, log, filesOf(58, "")...), 2, impl.DkFull},
		{"torn, 60 files", journalDisk(vote, log+"torn", filesOf(58, "")...), 3, impl.DkFull},
		{"no log, 59 files", synced(append(filesOf(58, ""), bare.Live...)...), 0, impl.DkOk},
		{"no log, 60 files", synced(append(filesOf(59, ""), bare.Live...)...), 0, impl.DkFull},
		{"behind, just the bytes", journalDisk(vote, log, fat(200000-more)), 3, impl.DkOk},
		{"behind, a byte too many", journalDisk(vote, log, fat(200001-more)), 3, impl.DkFull},
		{"replaced, a byte too many", journalDisk(vote, log, fat(200001-more)), 0, impl.DkFull},
		{"replaced, just the bytes", journalDisk(vote, log, fat(200000-more)), 0, impl.DkOk},
		{"torn, just the bytes", journalDisk(vote, log+"torn", fat(199996-all)), 3, impl.DkOk},
		{"torn, a byte too many", journalDisk(vote, log+"torn", fat(199997-all)), 3, impl.DkFull},
	} {
		if !impl.DiskOk(r.d) {
			t.Fatal(r.what)
		}
		got, code := impl.SaveEntries(r.d, r.from, fresh)
		checkCode(t, r.what, r.d, got, code, r.code)
		if r.code == impl.DkOk {
			checkRecover(t, r.what, got, impl.Journal{Term: 1, Entries: slices.Concat(old[:r.from], fresh)})
		}
	}
	full := busier(disk, 200)
	got, code := impl.SaveEntries(full, 3, nil)
	checkCode(t, "200 ops and nothing to save", full, got, code, impl.DkOk)
	got, code = impl.SaveEntries(busier(disk, 199), 3, fresh[:1])
	checkCode(t, "199 ops and one entry", full, got, code, impl.DkOk)
}

func TestSaveManyEntries(t *testing.T) {
	vote := rawVote(1, 0)
	for _, r := range []struct {
		what string
		d    impl.Disk
		from int64
		n    int
		code int64
	}{
		{"behind nothing", journalDisk(vote, ""), 0, 200, impl.DkOk},
		{"behind nothing, an op too many", journalDisk(vote, ""), 0, 201, impl.DkFull},
		{"without a log", synced(impl.File{Name: "vote", Data: vote}), 0, 200, impl.DkOk},
		{"without a log, an op too many", synced(impl.File{Name: "vote", Data: vote}), 0, 201, impl.DkFull},
		{"behind 300", journalDisk(vote, rawEntries(entriesOf(300, 1)...)), 300, 200, impl.DkOk},
		{"behind 301", journalDisk(vote, rawEntries(entriesOf(301, 1)...)), 301, 200, impl.JnEntries},
		{"behind 300, an entry too many", journalDisk(vote, rawEntries(entriesOf(300, 1)...)), 300, 201, impl.JnEntries},
		{"behind 500", journalDisk(vote, rawEntries(entriesOf(500, 1)...)), 500, 0, impl.DkOk},
		{"one behind 500", journalDisk(vote, rawEntries(entriesOf(500, 1)...)), 500, 1, impl.JnEntries},
		{"one at the last of 500", journalDisk(vote, rawEntries(entriesOf(500, 1)...)), 499, 1, impl.DkOk},
		{"501 frames, none more", journalDisk(vote, rawEntries(entriesOf(501, 1)...)), 500, 0, impl.DkOk},
		{"501 frames, one more", journalDisk(vote, rawEntries(entriesOf(501, 1)...)), 500, 1, impl.JnEntries},
		{"501 frames, from behind them", journalDisk(vote, rawEntries(entriesOf(501, 1)...)), 501, 0, impl.JnEntries},
		{"500 in place of a torn log", journalDisk(vote, "torn"), 0, 500, impl.DkOk},
		{"501 in place of a torn log", journalDisk(vote, "torn"), 0, 501, impl.JnEntries},
		{"500 in place of one", journalDisk(vote, rawEntries(impl.Entry{Term: 1})), 0, 500, impl.DkOk},
	} {
		got, code := impl.SaveEntries(r.d, r.from, entriesOf(r.n, 1))
		checkCode(t, r.what, r.d, got, code, r.code)
		if r.code == impl.DkOk {
			want := impl.Journal{Term: 1, Entries: slices.Concat(entriesOf(int(r.from), 1), entriesOf(r.n, 1))}
			checkRecover(t, r.what, got, want)
			checkFiles(t, r.what, got, impl.File{Name: "log", Data: rawEntries(want.Entries...)}, impl.File{Name: "vote", Data: vote})
		}
	}
}

// A slowJournal is what a node's files are, and the journal that they tell, kept beside the program.
type slowJournal struct {
	impl.Journal
	whole bool // the file log has just the bytes of Entries, or is not there
	there bool // the file log
}

func (s slowJournal) voteCode(term, vote int64) int64 {
	switch {
	case term < 0 || vote < 0 || term > impl.MaxNumber || vote > impl.MaxNumber:
		return impl.JnVote
	case term < s.Term, term == s.Term && s.Vote != 0 && s.Vote != vote:
		return impl.JnVote
	}
	return impl.DkOk
}

func (s slowJournal) entriesCode(from int64, entries []impl.Entry) int64 {
	if from < 0 || from > int64(len(s.Entries)) {
		return impl.JnEntries
	}
	least := int64(1)
	if from > 0 {
		least = s.Entries[from-1].Term
	}
	for _, e := range entries {
		if e.Term < least || e.Term > s.Term || e.Kind < 0 || e.Kind > 9 {
			return impl.JnEntries
		}
		least = e.Term
	}
	return impl.DkOk
}

func randomEntries(r *rand.Rand, s slowJournal) []impl.Entry {
	var entries []impl.Entry
	term := max(1, s.Term-r.Int64N(2))
	for range r.IntN(4) {
		entries = append(entries, impl.Entry{Term: term, Kind: r.Int64N(9), Body: mixedBytes(r.IntN(30))})
		term += r.Int64N(2)
	}
	if len(entries) > 0 && r.IntN(8) == 0 {
		entries[r.IntN(len(entries))].Kind = 10 - 11*r.Int64N(2)
	}
	return entries
}

func TestJournalsAgainstTheSlowWay(t *testing.T) {
	r := rand.New(rand.NewPCG(5, 5))
	for range 200 {
		d, s := impl.Disk{}, slowJournal{whole: true}
		for range r.IntN(30) {
			switch r.IntN(4) {
			case 0:
				term, vote := s.Term+r.Int64N(4)-1, r.Int64N(4)-r.Int64N(2)
				want := s.voteCode(term, vote)
				got, code := impl.SaveVote(d, term, vote)
				checkCode(t, "SaveVote", d, got, code, want)
				if d = got; want == impl.DkOk {
					s.Term, s.Vote = term, vote
				}
			case 1, 2:
				from, entries := r.Int64N(int64(len(s.Entries))+3)-1, randomEntries(r, s)
				if r.IntN(2) == 0 {
					from = int64(len(s.Entries))
				}
				want := s.entriesCode(from, entries)
				got, code := impl.SaveEntries(d, from, entries)
				checkCode(t, "SaveEntries", d, got, code, want)
				if d = got; want == impl.DkOk {
					s.there = s.there || len(entries) > 0 || from < int64(len(s.Entries)) || !s.whole
					s.Entries, s.whole = slices.Concat(s.Entries[:from], entries), true
				}
			case 3:
				d, s = loseSome(t, r, d, s)
			}
			checkSlowly(t, d, s)
		}
	}
}

// loseSome appends entries without a Sync, and loses power.
func loseSome(t *testing.T, r *rand.Rand, d impl.Disk, s slowJournal) (impl.Disk, slowJournal) {
	t.Helper()
	entries := randomEntries(r, s)
	if !s.whole || len(entries) == 0 || s.entriesCode(int64(len(s.Entries)), entries) != impl.DkOk {
		return d, s
	}
	for _, e := range entries {
		d = done(t, d, appendOp("log", impl.EntryText(e)))
	}
	kept := r.IntN(len(entries) + 1)
	torn := r.Int64N(50)
	e, ok := impl.Crash(d, allPlaces(kept), torn)
	if !ok {
		t.Fatal("no crash")
	}
	if kept > 0 {
		size := int64(len(impl.EntryText(entries[kept-1])))
		s.there, s.whole = true, torn >= size || torn == 0
		if torn < size {
			kept--
		}
	}
	s.Entries = slices.Concat(s.Entries, entries[:kept])
	return e, s
}

func checkSlowly(t *testing.T, d impl.Disk, s slowJournal) {
	t.Helper()
	checkRecover(t, "recovered", d, s.Journal)
	if e, ok := impl.Crash(d, nil, 0); !ok || !sameDisk(e, d) {
		t.Error("a loss of power takes something")
	}
	log, there := impl.ReadFile(d, "log")
	if there != s.there || s.whole != (log == rawEntries(s.Entries...)) {
		t.Errorf("the file log: %v, %d bytes", there, len(log))
	}
}

func TestWhatIsSavedIsRecoveredBehindEveryLossOfPower(t *testing.T) {
	saved, code := impl.SaveVote(impl.Disk{}, 4, 2)
	checkCode(t, "SaveVote", impl.Disk{}, saved, code, impl.DkOk)
	entries := []impl.Entry{{Term: 1, Kind: 1, Body: "a"}, {Term: 3, Kind: 2, Body: "b"}, {Term: 4, Kind: 1, Body: "c"}}
	saved, code = impl.SaveEntries(saved, 0, entries)
	checkCode(t, "SaveEntries", impl.Disk{}, saved, code, impl.DkOk)
	want := impl.Journal{Term: 4, Vote: 2, Entries: entries}
	for _, torn := range []int64{0, 1, 100, math.MaxInt64} {
		d, ok := impl.Crash(saved, nil, torn)
		if !ok || !sameDisk(d, saved) {
			t.Error("what is saved is lost")
		}
		checkRecover(t, "behind a loss of power", d, want)
	}
	// A second vote and a second log that were not synced: each is the old one or the new one.
	next, _ := impl.Replace(saved, "vote", rawVote(5, 1))
	next, _ = impl.Replace(next, "log", rawEntries(entries[:2]...))
	for _, keep := range choices(len(next.Ops)) {
		for torn := range int64(60) {
			d, ok := impl.Crash(next, keep, torn)
			j, read := impl.Recover(d)
			oldVote, newVote := j.Term == 4 && j.Vote == 2, j.Term == 5 && j.Vote == 1
			oldLog, newLog := slices.Equal(j.Entries, entries), slices.Equal(j.Entries, entries[:2])
			if !ok || !read || !oldVote && !newVote || !oldLog && !newLog {
				t.Errorf("keep %v, torn %d: %+v, %v, %v", keep, torn, j, ok, read)
			}
		}
	}
}

func TestOfEntriesThatWereNotSyncedABeginningIsLeft(t *testing.T) {
	saved := []impl.Entry{{Term: 1, Kind: 1, Body: "saved"}, {Term: 2, Kind: 0}}
	added := []impl.Entry{{Term: 2, Kind: 1, Body: "x"}, {Term: 2}, {Term: 3, Kind: 9, Body: mixedBytes(40)}, {Term: 4, Kind: 2, Body: "last"}}
	for _, start := range []impl.Disk{journalDisk(rawVote(4, 3), rawEntries(saved...)), synced(impl.File{Name: "vote", Data: rawVote(4, 3)})} {
		before, _ := impl.Recover(start)
		d := start
		for _, e := range added {
			d = done(t, d, appendOp("log", impl.EntryText(e)))
		}
		for kept := range len(added) + 1 {
			for torn := range int64(70) {
				e, ok := impl.Crash(d, allPlaces(kept), torn)
				if !ok {
					t.Fatal("no crash")
				}
				n := kept
				if kept > 0 && torn < int64(len(impl.EntryText(added[kept-1]))) {
					n--
				}
				left := impl.Journal{Term: 4, Vote: 3, Entries: slices.Concat(before.Entries, added[:n])}
				checkRecover(t, fmt.Sprintf("%d kept, torn %d", kept, torn), e, left)
				more := impl.Entry{Term: 4, Kind: 5, Body: "more"}
				again, code := impl.SaveEntries(e, int64(len(left.Entries)), []impl.Entry{more})
				checkCode(t, "behind a torn end", e, again, code, impl.DkOk)
				left.Entries = append(left.Entries, more)
				checkRecover(t, "behind a torn end", again, left)
				checkFiles(t, "behind a torn end", again, impl.File{Name: "log", Data: rawEntries(left.Entries...)}, impl.File{Name: "vote", Data: rawVote(4, 3)})
			}
		}
	}
}

func TestVotesSavedOneBehindTheOther(t *testing.T) {
	d := impl.Disk{}
	entries := entriesOf(1, 1)
	for term := int64(1); term <= 40; term++ {
		before := d
		got, code := impl.SaveVote(d, term, term%3)
		checkCode(t, "a vote", before, got, code, impl.DkOk)
		if term%3 != 0 {
			again, code := impl.SaveVote(got, term, 0)
			checkCode(t, "a second vote", got, again, code, impl.JnVote)
		}
		d, code = impl.SaveEntries(got, int64(len(entries)-1), entries[len(entries)-1:])
		checkCode(t, "an entry", got, d, code, impl.DkOk)
		checkRecover(t, "one behind the other", d, impl.Journal{Term: term, Vote: term % 3, Entries: entries})
		entries = append(entries, impl.Entry{Term: term + 1, Kind: term % 10, Body: fmt.Sprint(term)})
	}
}

func TestJournalAnswersAreTheirOwn(t *testing.T) {
	file, entry := impl.File{Name: "changed", Data: "changed"}, impl.Entry{Term: 99, Kind: 99, Body: "changed"}
	fresh := roomy([]impl.Entry{{Term: 1, Kind: 1, Body: "x"}, {Term: 2, Kind: 1, Body: "y"}}, entry)
	wrong := roomy([]impl.Entry{{Term: 1, Kind: 1, Body: "x"}, {}}, entry)
	lists := []watch{watchOver("entries", fresh), watchOver("wrong entries", wrong)}
	saveEntries := func(from int64, entries []impl.Entry) func(impl.Disk) impl.Disk {
		return func(d impl.Disk) impl.Disk { e, _ := impl.SaveEntries(d, from, entries); return e }
	}
	saveVote := func(term, vote int64) func(impl.Disk) impl.Disk {
		return func(d impl.Disk) impl.Disk { e, _ := impl.SaveVote(d, term, vote); return e }
	}
	calls := map[string]func(impl.Disk) impl.Disk{
		"SaveVote": saveVote(3, 1), "SaveVote again": saveVote(2, 1), "SaveVote refused": saveVote(-1, 0),
		"SaveEntries at 0": saveEntries(0, fresh), "SaveEntries at 1": saveEntries(1, fresh), "SaveEntries at 2": saveEntries(2, fresh[1:]),
		"SaveEntries of none": saveEntries(2, nil), "SaveEntries refused": saveEntries(1, wrong), "SaveEntries at -1": saveEntries(-1, fresh),
	}
	whole := journalDisk(rawVote(2, 1), rawEntries(entriesOf(2, 1)...))
	disks := []impl.Disk{
		{}, whole, journalDisk(rawVote(2, 1), rawEntries(entriesOf(2, 1)...)+"torn"), done(t, whole, appendOp("z", "1"), removeOp("z")),
		busier(whole, 200), {Live: whole.Live}, journalDisk("", ""),
	}
	for _, d := range disks {
		for name, call := range calls {
			argument := roomyDisk(d)
			watches := slices.Concat(watchDisk("the argument's", argument), lists)
			answer := call(argument)
			checkWatches(t, name, watches)
			first := impl.Disk{Live: slices.Clone(answer.Live), Safe: slices.Clone(answer.Safe), Ops: slices.Clone(answer.Ops)}
			own := watchDisk("the answer's", answer)
			scribble(answer.Live, file)
			checkWatches(t, name+", Live scribbled on", slices.Concat(own[1:], watches))
			scribble(answer.Safe, file)
			scribble(answer.Ops, removeOp("changed"))
			checkWatches(t, name+", all scribbled on", watches)
			if again := call(argument); !sameDisk(again, first) {
				t.Errorf("%s: the same argument, another answer: %+v", name, again)
			}
		}
		argument := roomyDisk(d)
		watches := watchDisk("the argument's", argument)
		j, ok := impl.Recover(argument)
		before := slices.Clone(j.Entries)
		scribble(j.Entries, entry)
		checkWatches(t, "Recover", watches)
		if k, again := impl.Recover(argument); again != ok || !slices.Equal(k.Entries, before) {
			t.Errorf("Recover: the same argument, another answer: %+v", k)
		}
	}
	impl.JournalOk(impl.Journal{Term: 2, Entries: fresh})
	impl.JournalOk(impl.Journal{Term: 2, Entries: wrong})
	checkWatches(t, "JournalOk", lists)
}
