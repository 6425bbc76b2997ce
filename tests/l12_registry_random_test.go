package tests

import (
	"fmt"
	"math"
	"math/rand/v2"
	"slices"
	"strings"
	"testing"

	"loop.example/g00141/impl"
)

// randomDigest is mostly that of a blob which is there, and sometimes one that is condemned or new.
func randomDigest(r *rand.Rand, s impl.State) string {
	if n := r.IntN(6); n < 3 && len(s.Blobs) > 0 {
		return pick(r, s.Blobs...).Digest
	} else if n == 3 && len(s.Condemned) > 0 {
		return pick(r, s.Condemned...)
	}
	return digestOf(fmt.Sprint("b", r.IntN(14)))
}

func randomImage(r *rand.Rand, s impl.State) string {
	if len(s.Manifests) > 0 && r.IntN(3) == 0 {
		return pick(r, s.Manifests...).Text
	}
	var layers []string
	for range 1 + r.IntN(2) {
		layers = append(layers, randomDigest(r, s))
	}
	return manifestText(randomDigest(r, s), layers)
}

func randomTag(r *rand.Rand, s impl.State) (string, string) {
	if len(s.Tags) > 0 && r.IntN(2) == 0 {
		row := pick(r, s.Tags...)
		return row.Repo, row.Tag
	}
	return pick(r, "a", "a/b", "ab"), pick(r, "v1", "v2", "b", "bv1")
}

func randomCmd(r *rand.Rand, s impl.State) impl.Cmd {
	c := impl.Cmd{Op: pick[int64](r, 1, 1, 1, 2, 2, 3, 3, 4, 5, 6, 7)}
	repo, tag := randomTag(r, s)
	switch c.Op {
	case impl.CmPin, impl.CmSwept:
		c.Digest = randomDigest(r, s)
	case impl.CmManifest:
		c.Text = randomImage(r, s)
	case impl.CmTag:
		c.Repo, c.Tag, c.Digest = repo, tag, digestOf(randomImage(r, s))
	case impl.CmUntag:
		c.Repo, c.Tag = repo, tag
	}
	if r.IntN(3) == 0 {
		c.Session, c.Serial = 1+r.Int64N(24), r.Int64N(4)
		for _, row := range s.Sessions {
			if row.Id == c.Session && r.IntN(4) > 0 {
				c.Serial = min(max(row.Serial+r.Int64N(3)-1, 0), impl.MaxNumber)
			}
		}
	}
	if r.IntN(25) == 0 {
		*pick(r, &c.Repo, &c.Tag, &c.Digest, &c.Text) = pick(r, "", "a", digestOf("b1"), imageOne)
	}
	if r.IntN(40) == 0 {
		*pick(r, &c.Session, &c.Serial, &c.Op) = pick(r, oddNumbers...)
	}
	return c
}

// checkKept: a right state is right, with no blob condemned that a manifest names; with a code nothing but the sessions changes; what is sent again changes nothing.
func checkKept(t *testing.T, s impl.State, c impl.Cmd, got impl.State, code int64) {
	t.Helper()
	if !impl.StateOk(got) {
		t.Fatalf("%+v leaves a state that is not right: %+v", c, got)
	}
	for _, d := range impl.Needed(got) {
		if slices.Contains(got.Condemned, d) || !hasBlob(got, d) {
			t.Fatalf("%+v: %s is needed", c, d)
		}
	}
	if code != impl.RgOk {
		but := copyState(got)
		but.Sessions = s.Sessions
		if !sameState(but, s) {
			t.Fatalf("%+v, code %d, changes more than the sessions: %+v", c, code, got)
		}
	}
	if c.Session == 0 && code != impl.RgForm && !slices.Equal(got.Sessions, s.Sessions) {
		t.Fatalf("%+v changes sessions: %+v", c, got.Sessions)
	}
	if c.Session != 0 && code != impl.RgForm {
		if again, code2 := impl.Apply(got, c); code2 != code || !sameState(again, got) {
			t.Fatalf("%+v sent again: code %d, not %d: %+v", c, code2, code, again)
		}
	}
}

func checkTexts(t *testing.T, s impl.State) {
	t.Helper()
	text := impl.StateText(s)
	if text != rawState(s) {
		t.Fatalf("the text of %+v", s)
	}
	if back, ok := impl.ReadState(text); !ok || !sameState(back, s) {
		t.Fatalf("%+v comes back as %+v, %v", s, back, ok)
	}
	if list := impl.Needed(s); !slices.Equal(list, slowNeeded(s)) {
		t.Fatalf("%q needed", list)
	}
}

func TestRegistryAgainstTheSlowWay(t *testing.T) {
	seen := map[string]int{}
	for what, start := range map[string]impl.State{
		"nothing": {}, "a state": aState(), "a full one": stateOf(40, 100, 200, 200, 20), "nearly full": stateOf(38, 97, 196, 195, 17), "full of manifests": stateOf(40, 3, 60, 0, 3),
		"full of tags": stateOf(3, 100, 10, 3, 0), "full of blobs": stateOf(2, 2, 200, 3, 0), "full of sessions": stateOf(2, 2, 6, 2, 20), "at the last epochs": altered(aState(), atEpoch(mostEpoch-3)),
	} {
		r := rand.New(rand.NewPCG(12, uint64(len(what))))
		for range 3 {
			s := start
			for step := range 160 {
				c := randomCmd(r, s)
				got, code := impl.Apply(s, c)
				want, wantCode := slowApply(s, c)
				if code != wantCode || !sameState(got, want) {
					t.Fatalf("%s, %+v: code %d, not %d: %+v, not %+v", what, c, code, wantCode, got, want)
				}
				checkKept(t, s, c, got, code)
				if step%16 == 0 {
					checkTexts(t, got)
				}
				s = got
				seen[fmt.Sprint(min(c.Op, 9), " ", code)]++
				seen[fmt.Sprint(c.Session != 0, " ", code)]++
			}
		}
	}
	for _, what := range []string{
		"1 0", "1 4", "1 5", "2 0", "2 3", "2 5", "3 0", "3 3", "3 5", "4 0", "4 3", "5 0", "5 5", "6 0", "6 5", "7 0", "7 3", "1 2", "9 2",
		"true 0", "true 3", "true 4", "true 5", "true 6", "false 0", "false 2", "false 3", "false 4", "false 5",
	} {
		if seen[what] == 0 {
			t.Errorf("%s has not come about", what)
		}
	}
}

// spoilState changes one thing, so that a state mostly is not right any more.
func spoilState(r *rand.Rand, s *impl.State) {
	number := pick(r, oddNumbers...)
	text := pick(r, "", "a", "a/b", "v1", "A", digestOf("a"), digestOf("b"), digestOf("x"), imageOne, imageTwo)
	switch r.IntN(10) {
	case 0:
		s.Epoch = number
	case 1:
		h := &s.Manifests[r.IntN(len(s.Manifests))]
		*pick(r, &h.Digest, &h.Text) = text
	case 2:
		row := &s.Tags[r.IntN(len(s.Tags))]
		*pick(r, &row.Repo, &row.Tag, &row.Digest) = text
	case 3:
		s.Blobs[r.IntN(len(s.Blobs))].Digest = text
	case 4:
		*pick(r, &s.Blobs[0].Until, &s.Manifests[0].Until) = number
	case 5:
		s.Condemned[r.IntN(len(s.Condemned))] = text
	case 6:
		row := &s.Sessions[r.IntN(len(s.Sessions))]
		*pick(r, &row.Id, &row.Serial, &row.Code) = number
	case 7:
		at := r.IntN(len(s.Blobs))
		s.Blobs = slices.Delete(s.Blobs, at, at+1)
	case 8:
		at := r.IntN(len(s.Manifests))
		s.Manifests = slices.Delete(s.Manifests, at, at+1)
	case 9:
		at := r.IntN(len(s.Tags))
		s.Tags = slices.Insert(s.Tags, r.IntN(len(s.Tags)), s.Tags[at])
	}
	if r.IntN(2) == 0 {
		*s = sortedState(*s)
	}
}

func TestSpoiledStatesAgainstTheSlowWay(t *testing.T) {
	r := rand.New(rand.NewPCG(12, 99))
	right, wrong := 0, 0
	for range 6000 {
		s := aState()
		spoilState(r, &s)
		ok := slowStateOk(s)
		if impl.StateOk(s) != ok {
			t.Fatalf("%v: %+v", !ok, s)
		}
		got, gotOk := impl.ReadState(rawState(s))
		if ok {
			right++
			checkTexts(t, s)
			continue
		}
		wrong++
		if gotOk || !isZeroState(got) || impl.StateText(s) != "" || impl.Needed(s) != nil {
			t.Fatalf("%+v: %v", s, gotOk)
		}
	}
	if right < 300 || wrong < 300 {
		t.Error(right, wrong)
	}
}

// checkNoCmd: a text that is that of no formed command.
func checkNoCmd(t *testing.T, what, text string) {
	t.Helper()
	if c, ok := impl.ReadCmd(text); ok || c != (impl.Cmd{}) {
		t.Errorf("%s: %+v, %v", what, c, ok)
	}
}

func TestCmdTextsByHand(t *testing.T) {
	d := digestOf("a")
	for _, r := range []struct {
		c    impl.Cmd
		text string
	}{
		{impl.Cmd{Op: impl.CmMark}, "\x00\x00\x05\x00\x00\x00\x00"},
		{impl.Cmd{Session: 1, Serial: 2, Op: impl.CmCondemn}, "\x01\x02\x06\x00\x00\x00\x00"},
		{impl.Cmd{Session: 128, Serial: 300, Op: impl.CmPin, Digest: d}, "\x80\x01\xac\x02\x01\x00\x00\x47" + d + "\x00"},
		{impl.Cmd{Op: impl.CmSwept, Digest: d}, "\x00\x00\x07\x00\x00\x47" + d + "\x00"},
		{impl.Cmd{Op: impl.CmUntag, Repo: "a/b", Tag: "v1"}, "\x00\x00\x04\x03a/b\x02v1\x00\x00"},
		{impl.Cmd{Op: impl.CmTag, Repo: "a/b", Tag: "v1", Digest: d}, "\x00\x00\x03\x03a/b\x02v1\x47" + d + "\x00"},
		{impl.Cmd{Session: impl.MaxNumber, Op: impl.CmManifest, Text: image("a", "b")}, "\x80\xa0\x94\xa5\x8d\x1d\x00\x02\x00\x00\x00\x9d\x01" + image("a", "b")},
	} {
		if got := impl.CmdText(r.c); got != r.text {
			t.Errorf("%+v: %q", r.c, got)
		}
		if c, ok := impl.ReadCmd(r.text); !ok || c != r.c {
			t.Errorf("%q: %+v, %v", r.text, c, ok)
		}
	}
	for what, text := range map[string]string{
		"nothing": "", "a long Session": "\x80\x00\x00\x05\x00\x00\x00\x00", "a long Serial": "\x00\x80\x00\x05\x00\x00\x00\x00", "a long Op": "\x00\x00\x85\x00\x00\x00\x00\x00", "a long length of Repo": "\x00\x00\x05\x80\x00\x00\x00\x00",
		"a long length of Tag": "\x00\x00\x05\x00\x80\x00\x00\x00", "a long length of Digest": "\x00\x00\x05\x00\x00\x80\x00\x00", "a long length of Text": "\x00\x00\x05\x00\x00\x00\x80\x00", "a Session above MaxNumber": rawNumbers(impl.MaxNumber+1, 0, 5, 0, 0, 0, 0),
		"a Serial above MaxNumber": rawNumbers(0, impl.MaxNumber+1, 5, 0, 0, 0, 0), "an Op far off": rawNumbers(0, 0, impl.MaxNumber, 0, 0, 0, 0), "an Op of 0": rawNumbers(0, 0, 0, 0, 0, 0, 0), "an Op of 8": rawNumbers(0, 0, 8, 0, 0, 0, 0), "a text too long": rawNumbers(0, 0, 5, 0, 0, 0, 20001) + mixedBytes(20001),
	} {
		checkNoCmd(t, what, text)
	}
}

func TestCmdTextsCutAndWithMoreBehind(t *testing.T) {
	for what, c := range formedCmds() {
		text := impl.CmdText(c)
		for i := range len(text) {
			checkNoCmd(t, fmt.Sprint(what, " cut at ", i), text[:i])
		}
		for _, more := range []string{"\x00", "x", "\n", text} {
			checkNoCmd(t, what+" with more behind", text+more)
		}
		for i := range len(text) {
			checkReadCmd(t, text[i:])
			for bit := range 8 {
				checkReadCmd(t, turnBit(text, 8*i+bit))
			}
		}
	}
}

// checkReadCmd: whatever is read as a command is formed, and has just this text.
func checkReadCmd(t *testing.T, text string) {
	t.Helper()
	c, ok := impl.ReadCmd(text)
	if ok && (!slowFormed(c) || rawCmd(c) != text) || !ok && c != (impl.Cmd{}) {
		t.Fatalf("%q is read as %+v, %v", text, c, ok)
	}
}

// checkNoState: a text that is that of no right state.
func checkNoState(t *testing.T, what, text string) {
	t.Helper()
	if s, ok := impl.ReadState(text); ok || !isZeroState(s) {
		t.Errorf("%s: %+v, %v", what, s, ok)
	}
}

func TestStateTextsByHand(t *testing.T) {
	if text := impl.StateText(impl.State{}); text != "\x00\x00\x00\x00\x00\x00" {
		t.Errorf("%q", text)
	}
	if s, ok := impl.ReadState("\x00\x00\x00\x00\x00\x00"); !ok || !isZeroState(s) {
		t.Errorf("%+v, %v", s, ok)
	}
	text := image("a", "a")
	s := impl.State{
		Epoch: 300, Manifests: []impl.Held{held(text, 5)}, Tags: []impl.TagRow{{Repo: "a/b", Tag: "v1", Digest: digestOf(text)}}, Blobs: []impl.Pin{pin("a", 128)},
		Condemned: []string{digestOf("x")}, Sessions: []impl.SessionRow{{Id: 1, Serial: 2, Code: 3}, {Id: 200, Serial: 0, Code: 0}},
	}
	want := "\xac\x02" + "\x01" + "\x47" + digestOf(text) + "\x9d\x01" + text + "\x05" + "\x01\x03a/b\x02v1\x47" + digestOf(text) + "\x01\x47" + digestOf("a") + "\x80\x01" + "\x01\x47" + digestOf("x") + "\x02\x01\x02\x03\xc8\x01\x00\x00"
	if got := impl.StateText(s); got != want {
		t.Errorf("%q, not %q", got, want)
	}
	if back, ok := impl.ReadState(want); !ok || !sameState(back, s) {
		t.Errorf("%+v, %v", back, ok)
	}
	for what, text := range map[string]string{
		"nothing": "", "an Epoch alone": "\x00", "a long Epoch": "\x80\x00\x00\x00\x00\x00\x00", "a long number of manifests": "\x00\x80\x00\x00\x00\x00\x00", "a long number of tags": "\x00\x00\x80\x00\x00\x00\x00", "a long number of blobs": "\x00\x00\x00\x80\x00\x00\x00",
		"a long number of condemned": "\x00\x00\x00\x00\x80\x00\x00", "a long number of sessions": "\x00\x00\x00\x00\x00\x80\x00", "a byte behind": "\x00\x00\x00\x00\x00\x00\x00", "a list too few": "\x00\x00\x00\x00\x00", "an Epoch too great": rawNumbers(mostEpoch+1, 0, 0, 0, 0, 0),
		"an Epoch above MaxNumber": rawNumbers(impl.MaxNumber+1, 0, 0, 0, 0, 0), "a session too few": "\x00\x00\x00\x00\x00\x02\x01\x02\x03", "a session too many": "\x00\x00\x00\x00\x00\x01\x01\x02\x03\x02\x02\x03", "a long Code": "\x00\x00\x00\x00\x00\x01\x01\x02\x83\x00", "a session of 0": "\x00\x00\x00\x00\x00\x01\x00\x00\x00",
	} {
		checkNoState(t, what, text)
	}
	for at := range 5 {
		numbers := make([]int64, 6)
		for _, count := range []int64{1, 1000, impl.MaxNumber} {
			numbers[at+1] = count
			checkNoState(t, fmt.Sprint(count, " rows that are not there in list ", at), rawNumbers(numbers...))
			checkNoState(t, fmt.Sprint(count, " rows of noughts in list ", at), rawNumbers(numbers...)+strings.Repeat("\x00", 4000))
		}
	}
}

func TestStateTextsCutAndWithMoreBehind(t *testing.T) {
	for what, s := range rightStates() {
		checkTexts(t, s)
		text := impl.StateText(s)
		step := 1 + len(text)/700
		for i := 0; i < len(text); i += step {
			checkNoState(t, fmt.Sprint(what, " cut at ", i), text[:i])
		}
		checkNoState(t, what+" without its last byte", text[:len(text)-1])
		for _, more := range []string{"\x00", "x", "\n", text} {
			checkNoState(t, what+" with more behind", text+more)
		}
	}
	text := impl.StateText(aState())
	for i := range len(text) {
		for _, change := range []byte{1, 2, 64, 128} {
			other := []byte(text)
			other[i] ^= change
			if got, ok := impl.ReadState(string(other)); ok && (impl.StateText(got) != string(other) || !slowStateOk(got)) || !ok && !isZeroState(got) {
				t.Fatalf("with byte %d changed: %+v", i, got)
			}
		}
	}
}

func roomyState(s impl.State) impl.State {
	s.Manifests, s.Tags = roomy(s.Manifests, impl.Held{Digest: "spare"}), roomy(s.Tags, impl.TagRow{Repo: "spare"})
	s.Blobs, s.Condemned = roomy(s.Blobs, impl.Pin{Digest: "spare"}), roomy(s.Condemned, "spare")
	s.Sessions = roomy(s.Sessions, impl.SessionRow{Id: 97})
	return s
}

func partsOfState(what string, s impl.State) []part {
	return []part{
		partOf(what+"'s Manifests", s.Manifests, impl.Held{Digest: "m"}), partOf(what+"'s Tags", s.Tags, impl.TagRow{Repo: "t"}), partOf(what+"'s Blobs", s.Blobs, impl.Pin{Digest: "b"}),
		partOf(what+"'s Condemned", s.Condemned, "c"), partOf(what+"'s Sessions", s.Sessions, impl.SessionRow{Id: -9}),
	}
}

// A stateAnswer is what one of the calls answered, whatever it is.
type stateAnswer struct {
	state impl.State
	list  []string
}

func (a stateAnswer) parts() []part {
	return append(partsOfState("the answer", a.state), partOf("the list", a.list, "l"))
}

func (a stateAnswer) clone() stateAnswer {
	return stateAnswer{copyState(a.state), slices.Clone(a.list)}
}

func (a stateAnswer) same(b stateAnswer) bool {
	return sameState(a.state, b.state) && slices.Equal(a.list, b.list)
}

func TestRegistryAnswersAreTheirOwn(t *testing.T) {
	states := rightStates()
	for _, what := range []string{"an Epoch below 0", "a blob condemned", "without the blob a", "21 sessions", "tags turned round"} {
		states[what] = wrongStates()[what]
	}
	cmds := formedCmds()
	cmds["not formed"], cmds["a new blob"], cmds["a condemned blob"], cmds["an unknown blob"] = impl.Cmd{}, pinCmd("new"), pinCmd("x"), manifestCmd(image("new", "new"))
	cmds["a new tag"], cmds["no tag"], cmds["a late one"], cmds["one sent again"] = tagCmd("new", "new", imageOne), untagCmd("app", "none"), of(3, 1, impl.Cmd{Op: impl.CmMark}), of(3, 5, impl.Cmd{Op: impl.CmMark})
	for what, s := range states {
		argument := roomyState(s)
		parts := partsOfState("the argument", argument)
		for which, c := range cmds {
			checkOwn(t, "Apply of "+which+" to "+what, parts, func() stateAnswer {
				next, _ := impl.Apply(argument, c)
				return stateAnswer{state: next}
			})
		}
		text := rawState(s)
		for name, call := range map[string]func() stateAnswer{
			"StateOk":   func() stateAnswer { impl.StateOk(argument); return stateAnswer{} },
			"StateText": func() stateAnswer { return stateAnswer{list: []string{impl.StateText(argument)}} },
			"ReadState": func() stateAnswer { next, _ := impl.ReadState(text); return stateAnswer{state: next} },
			"Needed":    func() stateAnswer { return stateAnswer{list: impl.Needed(argument)} },
			"TagAt":     func() stateAnswer { d, _ := impl.TagAt(argument, "app", "v1"); return stateAnswer{list: []string{d}} },
		} {
			checkOwn(t, name+" of "+what, parts, call)
		}
	}
}

func TestRegistryOfOddArguments(t *testing.T) {
	long := strings.Repeat("x", 100000)
	huge := impl.State{Epoch: math.MaxInt64}
	for range 3000 {
		huge.Manifests = append(huge.Manifests, impl.Held{Text: long[:5000]})
		huge.Tags = append(huge.Tags, impl.TagRow{Repo: long})
		huge.Blobs = append(huge.Blobs, impl.Pin{Digest: long})
		huge.Condemned = append(huge.Condemned, long)
		huge.Sessions = append(huge.Sessions, impl.SessionRow{Id: math.MinInt64})
	}
	if got, code := impl.Apply(huge, impl.Cmd{Op: math.MinInt64, Text: long}); code != impl.RgState || !isZeroState(got) {
		t.Error(code)
	}
	if got, code := impl.Apply(aState(), impl.Cmd{Session: math.MinInt64, Serial: math.MaxInt64, Op: impl.CmMark}); code != impl.RgForm || !sameState(got, aState()) {
		t.Error(code)
	}
	if d, ok := impl.TagAt(aState(), long, long); ok || d != "" {
		t.Error(d, ok)
	}
	checkNoState(t, "a long text", long)
	checkNoCmd(t, "a long text", long)
	checkNoState(t, "bytes of 255", strings.Repeat("\xff", 1000))
	checkNoCmd(t, "bytes of 255", strings.Repeat("\xff", 1000))
}
