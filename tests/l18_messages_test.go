package tests

import (
	"fmt"
	"math"
	"math/rand/v2"
	"slices"
	"strings"
	"testing"

	"loop.example/g00141/impl"
)

func aMsg() impl.Msg {
	return impl.Msg{
		Kind: 3, From: 1, To: 2, Term: 5, Index: 300, LogTerm: 4, Commit: 128, Ok: true, Text: "text",
		Conf: confOf([]int64{1, 2, 3}, []int64{4}), Entries: []impl.Entry{{Term: 4}, {Term: 5, Kind: 1, Body: "x\x00\xff"}, confEntry(5, "v 1 2")},
	}
}

// msgWith is a message with something changed.
func msgWith(change func(*impl.Msg)) impl.Msg {
	m := copyMsg(aMsg())
	change(&m)
	return m
}

// checkMsg holds MsgText and ReadMsg against the slow way; a formed message comes back from its bytes.
func checkMsg(t *testing.T, what string, m impl.Msg, right bool) {
	t.Helper()
	text := impl.MsgText(m)
	if slowMsgOk(m) != right {
		t.Errorf("%s: slowly %v", what, slowMsgOk(m))
	}
	if !right {
		if text != "" {
			t.Errorf("%s: written as %s", what, short(text))
		}
		checkReadMsg(t, what, rawMsg(m))
		return
	}
	if text != rawMsg(m) {
		t.Errorf("%s: written as %s", what, short(text))
	}
	want := copyMsg(m)
	if !slowConfOk(m.Conf) {
		want.Conf = impl.Conf{}
	}
	if back, ok := checkReadMsg(t, what, text); !ok || !sameMsg(back, want) {
		t.Errorf("%s: comes back as %+v, %v", what, back, ok)
	}
}

func checkReadMsg(t *testing.T, what, text string) (impl.Msg, bool) {
	t.Helper()
	got, ok := impl.ReadMsg(text)
	want, wantOk := slowReadMsg(text)
	if ok != wantOk || !sameMsg(got, want) {
		t.Fatalf("%s: %s is read as %+v, %v; not %+v, %v", what, short(text), got, ok, want, wantOk)
	}
	if !ok && !sameMsg(got, impl.Msg{}) {
		t.Errorf("%s: %s: not the zero value", what, short(text))
	}
	if ok && impl.MsgText(got) != text {
		t.Errorf("%s: %s is read as another one's text", what, short(text))
	}
	return got, ok
}

func checkNoMsg(t *testing.T, what, text string) {
	t.Helper()
	if m, ok := checkReadMsg(t, what, text); ok {
		t.Errorf("%s: %s is read as %+v", what, short(text), m)
	}
}

func TestClusterMessagesByHand(t *testing.T) {
	entry := impl.EntryText(impl.Entry{Term: 1, Kind: 1, Body: "x"})
	for _, r := range []struct {
		what string
		m    impl.Msg
		text string
	}{
		{"nothing", impl.Msg{}, "\x00\x00\x00\x00\x00\x00\x00\x00\x00\x00\x00"},
		{"the order of numbers", impl.Msg{Kind: 1, From: 2, To: 3, Term: 4, Index: 5, LogTerm: 6, Commit: 7, Ok: true}, "\x01\x02\x03\x04\x05\x06\x07\x01\x00\x00\x00"},
		{"a Text", impl.Msg{Kind: 5, Text: "abc"}, "\x05\x00\x00\x00\x00\x00\x00\x00\x03abc\x00\x00"},
		{"a Conf", impl.Msg{Kind: 5, Conf: confOf([]int64{1}, []int64{20})}, "\x05\x00\x00\x00\x00\x00\x00\x00\x00\x08v 1 l 20\x00"},
		{"an entry", impl.Msg{Kind: 3, Entries: []impl.Entry{{Term: 1, Kind: 1, Body: "x"}}}, "\x03\x00\x00\x00\x00\x00\x00\x00\x00\x00\x01\x0d" + entry},
		{"two entries", impl.Msg{Kind: 3, Index: 200, Entries: []impl.Entry{{Term: 1, Kind: 1, Body: "x"}, {Term: 1, Kind: 1, Body: "x"}}}, "\x03\x00\x00\x00\xc8\x01\x00\x00\x00\x00\x00\x02\x0d" + entry + "\x0d" + entry},
	} {
		if got := impl.MsgText(r.m); got != r.text {
			t.Errorf("%s: %q", r.what, got)
		}
		checkMsg(t, r.what, r.m, true)
	}
	checkMsg(t, "with all", aMsg(), true)
}

func TestClusterMessagesAtTheirLimits(t *testing.T) {
	for what, field := range map[string]func(*impl.Msg) *int64{
		"Kind": func(m *impl.Msg) *int64 { return &m.Kind }, "From": func(m *impl.Msg) *int64 { return &m.From }, "To": func(m *impl.Msg) *int64 { return &m.To }, "Term": func(m *impl.Msg) *int64 { return &m.Term },
		"Index": func(m *impl.Msg) *int64 { return &m.Index }, "LogTerm": func(m *impl.Msg) *int64 { return &m.LogTerm }, "Commit": func(m *impl.Msg) *int64 { return &m.Commit },
	} {
		for number, right := range map[int64]bool{
			math.MinInt64: false, -1: false, 0: true, 1: true, 6: true, 51: true, 127: true, 128: true, impl.MaxNumber - 1: true, impl.MaxNumber: true, impl.MaxNumber + 1: false, math.MaxInt64: false,
		} {
			checkMsg(t, fmt.Sprint(what, " ", number), msgWith(func(m *impl.Msg) { *field(m) = number }), right)
			alone := impl.Msg{}
			*field(&alone) = number
			checkMsg(t, fmt.Sprint(what, " alone ", number), alone, right)
		}
	}
	for n, right := range map[int]bool{0: true, 1: true, 7: true, 8: true, 9: false, 20: false} {
		checkMsg(t, fmt.Sprint(n, " entries"), msgWith(func(m *impl.Msg) { m.Entries = longLog(n, 3) }), right)
		checkMsg(t, fmt.Sprint(n, " long entries"), msgWith(func(m *impl.Msg) {
			m.Entries = slices.Repeat([]impl.Entry{{Term: 2, Kind: 9, Body: mixedBytes(4000)}}, n)
		}), right)
	}
	for _, e := range rightEntries() {
		for place := range 3 {
			checkMsg(t, fmt.Sprint("an entry of the Term ", e.Term), msgWith(func(m *impl.Msg) { m.Entries[place] = e }), true)
		}
	}
	for what, e := range wrongEntries {
		for place := range 3 {
			checkMsg(t, "an entry with "+what, msgWith(func(m *impl.Msg) { m.Entries[place] = e }), false)
		}
	}
	checkMsg(t, "entries whose Terms fall", msgWith(func(m *impl.Msg) { m.Entries = logOf(5, 4, 3) }), true)
	checkMsg(t, "entries of no kind of a log", msgWith(func(m *impl.Msg) {
		m.Entries = []impl.Entry{{Term: 1, Kind: 9}, {Term: 1, Body: "x"}, confEntry(1, "x")}
	}), true)
	for size, right := range map[int]bool{0: true, 1: true, 127: true, 128: true, 19999: true, 20000: true, 20001: false} {
		checkMsg(t, fmt.Sprint("a Text of ", size), msgWith(func(m *impl.Msg) { m.Text = mixedBytes(size) }), right)
		checkMsg(t, fmt.Sprint("a Text alone of ", size), impl.Msg{Text: mixedBytes(size)}, right)
	}
	for what, c := range rightConfs() {
		checkMsg(t, what, msgWith(func(m *impl.Msg) { m.Conf = c }), true)
	}
	for what, c := range wrongConfs() {
		checkMsg(t, what, msgWith(func(m *impl.Msg) { m.Conf = c }), true)
		if back, ok := impl.ReadMsg(impl.MsgText(msgWith(func(m *impl.Msg) { m.Conf = c }))); !ok || !isZeroConf(back.Conf) {
			t.Errorf("%s comes back as %+v, %v", what, back.Conf, ok)
		}
	}
	for _, ok := range []bool{false, true} {
		checkMsg(t, fmt.Sprint("Ok ", ok), msgWith(func(m *impl.Msg) { m.Ok = ok }), true)
	}
}

func TestClusterMessagesThatAreNone(t *testing.T) {
	numbers := func(list ...int64) string { return rawNumbers(list...) }
	head := numbers(3, 1, 2, 5, 6, 4, 2)
	entry := rawEntries(impl.Entry{Term: 1, Kind: 1, Body: "x"})
	if _, ok := checkReadMsg(t, "as told", head+numbers(1)+rawTexts("t", "v 1")+numbers(1)+rawTexts(entry)); !ok {
		t.Error("none as told")
	}
	for what, text := range map[string]string{
		"nothing":                             "",
		"an Ok of 2":                          head + numbers(2) + rawTexts("", "") + numbers(0),
		"an Ok of 128":                        head + numbers(128) + rawTexts("", "") + numbers(0),
		"no Ok":                               head + rawTexts("", "") + numbers(0),
		"a number too great":                  numbers(3, 1, 2, impl.MaxNumber+1, 6, 4, 2, 0) + rawTexts("", "") + numbers(0),
		"a number in too many bytes":          "\x83\x00" + numbers(1, 2, 5, 6, 4, 2, 0) + rawTexts("", "") + numbers(0),
		"an Ok in too many bytes":             head + "\x81\x00" + rawTexts("", "") + numbers(0),
		"a Text too long":                     head + numbers(0) + rawTexts(strings.Repeat("x", 20001), "") + numbers(0),
		"a Conf that is none":                 head + numbers(0) + rawTexts("", "v") + numbers(0),
		"a Conf with a blank":                 head + numbers(0) + rawTexts("", "v 1 ") + numbers(0),
		"a blank for a Conf":                  head + numbers(0) + rawTexts("", " ") + numbers(0),
		"a Conf that falls":                   head + numbers(0) + rawTexts("", "v 2 1") + numbers(0),
		"a Conf of eight":                     head + numbers(0) + rawTexts("", "v 1 2 3 4 5 6 7 8") + numbers(0),
		"a Conf with noughts":                 head + numbers(0) + rawTexts("", "v 01") + numbers(0),
		"no Conf":                             head + numbers(0) + rawTexts("") + numbers(0),
		"no number of entries":                head + numbers(0) + rawTexts("", ""),
		"fewer entries than told":             head + numbers(0) + rawTexts("", "") + numbers(2) + rawTexts(entry),
		"more entries than told":              head + numbers(0) + rawTexts("", "") + numbers(1) + rawTexts(entry, entry),
		"entries where none is told":          head + numbers(0) + rawTexts("", "") + numbers(0) + rawTexts(entry),
		"far more told":                       head + numbers(0) + rawTexts("", "") + numbers(impl.MaxNumber) + rawTexts(entry),
		"nine entries":                        head + numbers(0) + rawTexts("", "") + numbers(9) + strings.Repeat(rawTexts(entry), 9),
		"many entries":                        head + numbers(0) + rawTexts("", "") + numbers(20000) + strings.Repeat(rawTexts(entry), 20000),
		"an empty entry":                      head + numbers(0) + rawTexts("", "") + numbers(1) + rawTexts(""),
		"many empty entries":                  head + numbers(0) + rawTexts("", "") + numbers(500000) + strings.Repeat(rawTexts(""), 500000),
		"two frames for one entry":            head + numbers(0) + rawTexts("", "") + numbers(1) + rawTexts(entry+entry),
		"a byte behind a frame":               head + numbers(0) + rawTexts("", "") + numbers(1) + rawTexts(entry+"x"),
		"a frame that is cut":                 head + numbers(0) + rawTexts("", "") + numbers(1) + rawTexts(entry[:len(entry)-1]),
		"a frame of another kind":             head + numbers(0) + rawTexts("", "") + numbers(1) + rawTexts(whole(1, rawNumbers(1, 1, 1)+"x")),
		"a frame with more in it":             head + numbers(0) + rawTexts("", "") + numbers(1) + rawTexts(whole(2, rawNumbers(1, 1, 1)+"xy")),
		"a frame with less in it":             head + numbers(0) + rawTexts("", "") + numbers(1) + rawTexts(whole(2, rawNumbers(1, 1, 2)+"x")),
		"an entry with a Term of 0":           head + numbers(0) + rawTexts("", "") + numbers(1) + rawTexts(rawEntries(impl.Entry{Kind: 1})),
		"an entry with a Kind of 10":          head + numbers(0) + rawTexts("", "") + numbers(1) + rawTexts(rawEntries(impl.Entry{Term: 1, Kind: 10})),
		"an entry that is too long":           head + numbers(0) + rawTexts("", "") + numbers(1) + rawTexts(rawEntries(impl.Entry{Term: 1, Kind: 1, Body: strings.Repeat("x", 4001)})),
		"an entry's number in too many bytes": head + numbers(0) + rawTexts("", "") + numbers(1) + rawTexts(whole(2, "\x81\x00"+rawNumbers(1, 1)+"x")),
		"a wrong entry behind a right one":    head + numbers(0) + rawTexts("", "") + numbers(2) + rawTexts(entry, "x"),
		"a wrong entry ahead of a right one":  head + numbers(0) + rawTexts("", "") + numbers(2) + rawTexts("x", entry),
		"a text":                              "a text",
		"noughts":                             strings.Repeat("\x00", 10),
		"more noughts":                        strings.Repeat("\x00", 12),
		"bytes of 255":                        strings.Repeat("\xff", 1000),
	} {
		checkNoMsg(t, what, text)
	}
}

func TestClusterMessagesCutAndTurned(t *testing.T) {
	great := msgWith(func(m *impl.Msg) { m.Text, m.Entries = mixedBytes(300), append(longLog(7, 3), confEntry(3, "v 1")) })
	for _, m := range []impl.Msg{{}, aMsg(), great, {Kind: impl.MaxNumber, Index: impl.MaxNumber, Ok: true}} {
		text := impl.MsgText(m)
		for size := range len(text) {
			checkNoMsg(t, "cut", text[:size])
			checkReadMsg(t, "without its beginning", text[size+1:])
		}
		for _, more := range []string{"\x00", "\x01", "x", text} {
			checkNoMsg(t, "with more behind", text+more)
		}
		for bit := range len(text) * 8 {
			checkReadMsg(t, "a bit turned", turnBit(text, bit))
		}
		for at := range len(text) {
			for _, change := range []byte{255, 127, 3} {
				other := []byte(text)
				other[at] ^= change
				checkReadMsg(t, "a byte turned", string(other))
			}
		}
	}
}

func TestClusterMessagesAtRandom(t *testing.T) {
	r := rand.New(rand.NewPCG(18, 81))
	seen := map[bool]int{}
	for range 3000 {
		m := randomMsg(r, randomRightNode(r))
		if r.IntN(20) == 0 {
			m.Text = mixedBytes(19999 + r.IntN(3))
		}
		right := slowMsgOk(m)
		checkMsg(t, "at random", m, right)
		seen[right]++
		text := rawMsg(m)
		for range 4 {
			checkReadMsg(t, "spoiled", spoiledText(r, text))
		}
	}
	if seen[true] < 1000 || seen[false] < 200 {
		t.Error(seen)
	}
}

// A msgAnswer is what ReadMsg or MsgText answers.
type msgAnswer struct {
	m    impl.Msg
	rest string
}

func (a msgAnswer) parts() []part { return partsOfMsg("the answer", a.m) }

func (a msgAnswer) clone() msgAnswer { return msgAnswer{copyMsg(a.m), a.rest} }

func (a msgAnswer) same(b msgAnswer) bool { return a.rest == b.rest && sameMsg(a.m, b.m) }

func TestClusterMessagesAreTheirOwn(t *testing.T) {
	msgs := map[string]impl.Msg{"nothing": {}, "a message": aMsg(), "a wrong Conf": msgWith(func(m *impl.Msg) { m.Conf.Learners[0] = 1 }), "nine entries": msgWith(func(m *impl.Msg) { m.Entries = longLog(9, 1) }), "a wrong number": msgWith(func(m *impl.Msg) { m.Term = -1 })}
	for what, m := range msgs {
		argument := roomyMsg(m)
		parts := partsOfMsg("the argument", argument)
		text := rawMsg(m)
		checkOwn(t, "MsgText of "+what, parts, func() msgAnswer { return msgAnswer{rest: impl.MsgText(argument)} })
		checkOwn(t, "ReadMsg of "+what, parts, func() msgAnswer {
			got, ok := impl.ReadMsg(text)
			return msgAnswer{got, fmt.Sprint(ok)}
		})
	}
}
