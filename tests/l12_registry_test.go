package tests

import (
	"fmt"
	"math"
	"slices"
	"strings"
	"testing"

	"loop.example/g00141/impl"
)

const mostEpoch = impl.MaxNumber - 2

// image is the text of a manifest of the blobs with these Data, the first one its config.
func image(datas ...string) string {
	var digests []string
	for _, data := range datas {
		digests = append(digests, digestOf(data))
	}
	return manifestText(digests[0], digests[1:])
}

func held(text string, until int64) impl.Held {
	return impl.Held{Digest: digestOf(text), Text: text, Until: until}
}

func pin(data string, until int64) impl.Pin {
	return impl.Pin{Digest: digestOf(data), Until: until}
}

var (
	imageOne   = image("a", "a", "b")
	imageTwo   = image("b", "c")
	imageThree = image("c", "d", "d")
)

// aState is in the epoch 7: the third image has no tag, of the blobs e, f and g no image has one.
func aState() impl.State {
	return sortedState(impl.State{
		Epoch:     7,
		Manifests: []impl.Held{held(imageOne, 9), held(imageTwo, 6), held(imageThree, 7)},
		Tags:      []impl.TagRow{{Repo: "app", Tag: "v1", Digest: digestOf(imageTwo)}, {Repo: "app", Tag: "v2", Digest: digestOf(imageOne)}, {Repo: "lib/x", Tag: "v1", Digest: digestOf(imageTwo)}},
		Blobs:     []impl.Pin{pin("a", 9), pin("b", 3), pin("c", 0), pin("d", 12), pin("e", 9), pin("f", 6), pin("g", 7)},
		Condemned: []string{digestOf("x"), digestOf("y")},
		Sessions:  []impl.SessionRow{{Id: 3, Serial: 5}, {Id: 8, Code: 3}, {Id: 9, Serial: impl.MaxNumber, Code: 77}},
	})
}

// stateOf is in the epoch 4 and has so many rows in each list; the blobs are kept until 3.
func stateOf(manifests, tags, blobs, condemned, sessions int) impl.State {
	s := impl.State{Epoch: 4}
	for i := range blobs {
		s.Blobs = append(s.Blobs, pin(fmt.Sprint("blob ", i), 3))
	}
	for i := range manifests {
		s.Manifests = append(s.Manifests, held(image("blob 0", fmt.Sprint("blob ", i)), 5))
	}
	for i := range tags {
		s.Tags = append(s.Tags, impl.TagRow{Repo: fmt.Sprint("repo", i%7), Tag: fmt.Sprint("t", i), Digest: s.Manifests[i%manifests].Digest})
	}
	for i := range condemned {
		s.Condemned = append(s.Condemned, digestOf(fmt.Sprint("gone ", i)))
	}
	for i := range sessions {
		s.Sessions = append(s.Sessions, impl.SessionRow{Id: int64(i + 1), Serial: 10})
	}
	return sortedState(s)
}

// altered is a state with something changed.
func altered(s impl.State, changes ...func(*impl.State)) impl.State {
	s = copyState(s)
	for _, change := range changes {
		change(&s)
	}
	return s
}

func dropTags(s *impl.State) { s.Tags = nil }

func dropManifests(s *impl.State) { s.Tags, s.Manifests = nil, nil }

func rightStates() map[string]impl.State {
	states := map[string]impl.State{
		"nothing": {}, "a state": aState(), "a full one": stateOf(40, 100, 200, 200, 20), "blobs alone": stateOf(0, 0, 200, 0, 0), "condemned alone": stateOf(0, 0, 0, 200, 0), "sessions alone": stateOf(0, 0, 0, 0, 20),
		"manifests without tags": stateOf(40, 0, 40, 0, 0), "one of each": stateOf(1, 1, 1, 1, 1),
	}
	states["at the last epoch"] = altered(aState(), func(s *impl.State) { s.Epoch = mostEpoch })
	states["at the epoch 0"] = altered(aState(), func(s *impl.State) { s.Epoch = 0 })
	states["a great manifest"] = altered(stateOf(0, 0, 200, 0, 0), func(s *impl.State) {
		for n := range 40 {
			var layers []string
			for i := range 40 {
				layers = append(layers, s.Blobs[(i*5+n)%200].Digest)
			}
			s.Manifests = append(s.Manifests, held(manifestText(s.Blobs[n].Digest, layers), int64(n)))
		}
		*s = sortedState(*s)
	})
	states["empty lists"] = impl.State{Epoch: 3, Manifests: []impl.Held{}, Tags: []impl.TagRow{}, Blobs: []impl.Pin{}, Condemned: []string{}, Sessions: []impl.SessionRow{}}
	return states
}

// wrongStates are ones that are not right, each for one cause.
func wrongStates() map[string]impl.State {
	states := map[string]impl.State{
		"41 manifests": stateOf(41, 0, 41, 0, 0), "101 tags": stateOf(1, 101, 1, 0, 0), "201 blobs": stateOf(0, 0, 201, 0, 0), "201 condemned": stateOf(0, 0, 0, 201, 0), "21 sessions": stateOf(0, 0, 0, 0, 21),
		"41 manifests of a full one": stateOf(41, 100, 200, 200, 20), "101 tags of a full one": stateOf(40, 101, 200, 200, 20), "201 blobs of a full one": stateOf(40, 100, 201, 200, 20), "201 condemned of a full one": stateOf(40, 100, 200, 201, 20), "21 sessions of a full one": stateOf(40, 100, 200, 200, 21),
	}
	for what, change := range map[string]func(*impl.State){
		"an Epoch below 0":             func(s *impl.State) { s.Epoch = -1 },
		"an Epoch too great":           func(s *impl.State) { s.Epoch = mostEpoch + 1 },
		"manifests turned round":       func(s *impl.State) { slices.Reverse(s.Manifests) },
		"the last manifests exchanged": func(s *impl.State) { s.Manifests[1], s.Manifests[2] = s.Manifests[2], s.Manifests[1] },
		"a manifest twice":             func(s *impl.State) { s.Manifests = slices.Insert(s.Manifests, 1, s.Manifests[1]) },
		"a manifest twice, one later": func(s *impl.State) {
			s.Manifests = slices.Insert(s.Manifests, 1, s.Manifests[0])
			s.Manifests[1].Until++
		},
		"tags turned round":           func(s *impl.State) { slices.Reverse(s.Tags) },
		"tags of a repository turned": func(s *impl.State) { s.Tags[0], s.Tags[1] = s.Tags[1], s.Tags[0] },
		"repositories turned":         func(s *impl.State) { s.Tags[1], s.Tags[2] = s.Tags[2], s.Tags[1] },
		"a tag twice":                 func(s *impl.State) { s.Tags = append(s.Tags, s.Tags[2]) },
		"a tag of two manifests":      func(s *impl.State) { s.Tags = append(s.Tags, s.Tags[2]); s.Tags[3].Digest = digestOf(imageOne) },
		"blobs turned round":          func(s *impl.State) { slices.Reverse(s.Blobs) },
		"the last blobs exchanged":    func(s *impl.State) { s.Blobs[5], s.Blobs[6] = s.Blobs[6], s.Blobs[5] },
		"a blob twice":                func(s *impl.State) { s.Blobs = slices.Insert(s.Blobs, 3, s.Blobs[3]) },
		"a blob twice, one later":     func(s *impl.State) { s.Blobs = append(s.Blobs, s.Blobs[6]); s.Blobs[7].Until++ },
		"condemned turned round":      func(s *impl.State) { slices.Reverse(s.Condemned) },
		"a condemned one twice":       func(s *impl.State) { s.Condemned = append(s.Condemned, s.Condemned[1]) },
		"sessions turned round":       func(s *impl.State) { slices.Reverse(s.Sessions) },
		"the last sessions exchanged": func(s *impl.State) { s.Sessions[1], s.Sessions[2] = s.Sessions[2], s.Sessions[1] },
		"a session twice":             func(s *impl.State) { s.Sessions = append(s.Sessions, s.Sessions[2]) },
		"a session twice, one later":  func(s *impl.State) { s.Sessions = append(s.Sessions, s.Sessions[2]); s.Sessions[2].Serial-- },
		"a manifest's digest":         func(s *impl.State) { dropTags(s); s.Manifests[2].Digest = digitsOf("ffff") },
		"a manifest's other digest":   func(s *impl.State) { dropTags(s); s.Manifests = s.Manifests[:1]; s.Manifests[0].Digest = digestOf("a") },
		"a manifest without a digest": func(s *impl.State) { dropTags(s); s.Manifests[0].Digest = "" },
		"a tag of no manifest":        func(s *impl.State) { s.Tags[1].Digest = digestOf("no manifest") },
		"a tag of a blob":             func(s *impl.State) { s.Tags[2].Digest = digestOf("a") },
		"a tag of nothing":            func(s *impl.State) { s.Tags[0].Digest = "" },
		"a tag of a text":             func(s *impl.State) { s.Tags[0].Digest = imageOne },
		"a manifest of a tag is gone": func(s *impl.State) {
			s.Manifests = slices.DeleteFunc(s.Manifests, func(h impl.Held) bool { return h.Text == imageOne })
		},
		"no repository":                func(s *impl.State) { s.Tags[0].Repo = "" },
		"a wrong repository":           func(s *impl.State) { s.Tags[2].Repo = "lib//x" },
		"a repository too long":        func(s *impl.State) { s.Tags[2].Repo = strings.Repeat("x", 101) },
		"no tag":                       func(s *impl.State) { s.Tags[2].Tag = "" },
		"a wrong tag":                  func(s *impl.State) { s.Tags[2].Tag = "-v1" },
		"a tag too long":               func(s *impl.State) { s.Tags[2].Tag = strings.Repeat("x", 129) },
		"a blob condemned":             func(s *impl.State) { s.Condemned[0] = digestOf("f"); slices.Sort(s.Condemned) },
		"a blob that a manifest names": func(s *impl.State) { s.Condemned[0] = digestOf("a"); slices.Sort(s.Condemned) },
	} {
		states[what] = altered(aState(), change)
	}
	for what, none := range noDigests(digestOf("f")) {
		states["a blob: "+what] = sortedState(altered(aState(), dropManifests, func(s *impl.State) { s.Blobs[0].Digest = none }))
		states["a condemned one: "+what] = sortedState(altered(aState(), func(s *impl.State) { s.Condemned[0] = none }))
	}
	for _, name := range []string{"a", "b", "c", "d"} {
		states["without the blob "+name] = altered(aState(), func(s *impl.State) {
			s.Blobs = slices.DeleteFunc(s.Blobs, func(p impl.Pin) bool { return p.Digest == digestOf(name) })
		})
		states["with the blob condemned "+name] = sortedState(altered(states["without the blob "+name], func(s *impl.State) { s.Condemned = append(s.Condemned, digestOf(name)) }))
	}
	for what, text := range map[string]string{
		"is empty": "", "has no layer": image("a"), "has 41 layers": image(slices.Repeat([]string{"a"}, 42)...), "has a byte behind": imageOne + "x", "has a line behind": imageOne + "\n", "is not ended": imageOne[:len(imageOne)-1], "has no config": imageOne[strings.Index(imageOne, "\n")+1:], "is no manifest": "text",
	} {
		states["a manifest that "+what] = sortedState(altered(aState(), dropManifests, func(s *impl.State) { s.Manifests = []impl.Held{held(text, 9)} }))
	}
	return states
}

func checkStateOk(t *testing.T, what string, want bool, s impl.State) {
	t.Helper()
	if got := impl.StateOk(s); got != want {
		t.Errorf("%s: %v", what, got)
	}
	if slowStateOk(s) != want {
		t.Errorf("%s: the slow way says something else", what)
	}
}

func TestStateOk(t *testing.T) {
	for what, s := range rightStates() {
		checkStateOk(t, what, true, s)
	}
	for what, s := range wrongStates() {
		checkStateOk(t, what, false, s)
	}
	checkStateOk(t, "a manifest of 40 layers", true, altered(aState(), dropManifests, func(s *impl.State) {
		s.Manifests = []impl.Held{held(image(slices.Repeat([]string{"a"}, 41)...), 9)}
	}))
}

func TestStateOkOfNumbers(t *testing.T) {
	const most = impl.MaxNumber
	usual := map[int64]bool{math.MinInt64: false, -1: false, 0: true, 1: true, 6: true, most - 1: true, most: true, most + 1: false, math.MaxInt64: false}
	for _, r := range []struct {
		what   string
		field  func(*impl.State) *int64
		wanted map[int64]bool
	}{
		{"Epoch", func(s *impl.State) *int64 { return &s.Epoch }, map[int64]bool{math.MinInt64: false, -1: false, 0: true, 1: true, most - 3: true, most - 2: true, most - 1: false, most: false, most + 1: false, math.MaxInt64: false}},
		{"Until of the first manifest", func(s *impl.State) *int64 { return &s.Manifests[0].Until }, usual},
		{"Until of the last manifest", func(s *impl.State) *int64 { return &s.Manifests[2].Until }, usual},
		{"Until of the first blob", func(s *impl.State) *int64 { return &s.Blobs[0].Until }, usual},
		{"Until of the last blob", func(s *impl.State) *int64 { return &s.Blobs[6].Until }, usual},
		{"Serial of the first session", func(s *impl.State) *int64 { return &s.Sessions[0].Serial }, usual},
		{"Serial of the last session", func(s *impl.State) *int64 { return &s.Sessions[2].Serial }, usual},
		{"Code of the first session", func(s *impl.State) *int64 { return &s.Sessions[0].Code }, usual},
		{"Code of the last session", func(s *impl.State) *int64 { return &s.Sessions[2].Code }, usual},
		{"Id of the first session", func(s *impl.State) *int64 { return &s.Sessions[0].Id }, map[int64]bool{math.MinInt64: false, -1: false, 0: false, 1: true, 7: true, 8: false, 9: false, 10: false}},
		{"Id of the last session", func(s *impl.State) *int64 { return &s.Sessions[2].Id }, map[int64]bool{0: false, 7: false, 8: false, 9: true, most: true, most + 1: false, math.MaxInt64: false}},
	} {
		for number, want := range r.wanted {
			s := aState()
			*r.field(&s) = number
			checkStateOk(t, fmt.Sprint(r.what, " ", number), want, s)
		}
	}
}

func TestStateOkOfTagsInOrder(t *testing.T) {
	for _, r := range []struct {
		what string
		tags []string
		want bool
	}{
		{"one", []string{"a:b"}, true},
		{"by repository, not by tag", []string{"a:z", "b:a"}, true},
		{"by tag, not by repository", []string{"b:a", "a:z"}, false},
		{"a tag in two repositories", []string{"a:v", "b:v"}, true},
		{"two tags", []string{"a:v1", "a:v2"}, true},
		{"two tags turned round", []string{"a:v2", "a:v1"}, false},
		{"one twice", []string{"a:v", "a:v"}, false},
		{"one twice, not side by side", []string{"a:v", "a:w", "a:v"}, false},
		{"one text put together", []string{"a:bc", "ab:c"}, true},
		{"one text put together, turned round", []string{"ab:c", "a:bc"}, false},
		{"a beginning ahead", []string{"a:v", "a/b:u"}, true},
		{"a beginning behind", []string{"a/b:u", "a:v"}, false},
		{"a tag that begins another", []string{"a:v", "a:v1"}, true},
		{"a tag that another one begins", []string{"a:v1", "a:v"}, false},
		{"by bytes", []string{"a-b:v", "a.b:v", "a/b:v", "a0:v", "a_b:v", "aa:v"}, true},
		{"a slash ahead of a dot", []string{"a/b:v", "a.b:v"}, false},
		{"great letters ahead", []string{"a:0", "a:V", "a:_", "a:v"}, true},
		{"great letters behind", []string{"a:v", "a:V"}, false},
		{"the longest", []string{strings.Repeat("r", 100) + ":" + strings.Repeat("t", 128)}, true},
	} {
		s := aState()
		s.Tags = nil
		for i, text := range r.tags {
			repo, tag, _ := strings.Cut(text, ":")
			s.Tags = append(s.Tags, impl.TagRow{Repo: repo, Tag: tag, Digest: s.Manifests[i%3].Digest})
		}
		checkStateOk(t, r.what, r.want, s)
	}
}

// formedCmds are one of each Op, and some more.
func formedCmds() map[string]impl.Cmd {
	cmds := map[string]impl.Cmd{}
	for what, c := range map[string]impl.Cmd{
		"CmPin":      {Op: impl.CmPin, Digest: digestOf("a")},
		"CmManifest": {Op: impl.CmManifest, Text: imageOne},
		"CmTag":      {Op: impl.CmTag, Repo: "app", Tag: "v1", Digest: digestOf(imageOne)},
		"CmUntag":    {Op: impl.CmUntag, Repo: "app", Tag: "v1"},
		"CmMark":     {Op: impl.CmMark},
		"CmCondemn":  {Op: impl.CmCondemn},
		"CmSwept":    {Op: impl.CmSwept, Digest: digestOf("x")},
	} {
		cmds[what] = c
		cmds[what+" of a session"] = of(200, 300, c)
		cmds[what+" of the last session"] = of(impl.MaxNumber, impl.MaxNumber, c)
		cmds[what+" with a Serial alone"] = of(0, impl.MaxNumber, c)
	}
	cmds["a tag as long as can be"] = impl.Cmd{Op: impl.CmTag, Repo: strings.Repeat("r", 100), Tag: strings.Repeat("t", 128), Digest: digitsOf("0")}
	cmds["a manifest as long as can be"] = impl.Cmd{Op: impl.CmManifest, Text: image(slices.Repeat([]string{"a"}, 41)...)}
	return cmds
}

// wrongCmds are ones that are not formed, each for one cause.
func wrongCmds() map[string]impl.Cmd {
	cmds := map[string]impl.Cmd{"nothing": {}, "an Op of 0": {Digest: digestOf("a")}}
	put := func(what string, c impl.Cmd, change func(*impl.Cmd)) {
		change(&c)
		cmds[what] = c
	}
	names := map[int64]string{impl.CmPin: "digest", impl.CmManifest: "text", impl.CmTag: "repo tag digest", impl.CmUntag: "repo tag", impl.CmMark: "", impl.CmCondemn: "", impl.CmSwept: "digest"}
	for what, c := range formedCmds() {
		for _, number := range []int64{math.MinInt64, -1, impl.MaxNumber + 1, math.MaxInt64} {
			put(fmt.Sprint(what, " Session ", number), c, func(c *impl.Cmd) { c.Session = number })
			put(fmt.Sprint(what, " Serial ", number), c, func(c *impl.Cmd) { c.Serial = number })
		}
		for _, op := range []int64{math.MinInt64, -1, 0, 8, 9, 1 << 32, math.MaxInt64} {
			put(fmt.Sprint(what, " Op ", op), c, func(c *impl.Cmd) { c.Op = op })
		}
		for _, field := range []struct {
			name         string
			of           func(*impl.Cmd) *string
			right, wrong []string
		}{
			{"repo", func(c *impl.Cmd) *string { return &c.Repo }, []string{"app", "a"}, []string{"", "/", "App", "app:v1", strings.Repeat("r", 101)}},
			{"tag", func(c *impl.Cmd) *string { return &c.Tag }, []string{"v1", "_"}, []string{"", ".v1", "v 1", "v1\n", strings.Repeat("t", 129)}},
			{"digest", func(c *impl.Cmd) *string { return &c.Digest }, []string{digestOf("a"), digitsOf("0")}, []string{"", "sha256:", digestOf("a")[:70], digestOf("a") + "0", strings.ToUpper(digestOf("a")), imageOne}},
			{"text", func(c *impl.Cmd) *string { return &c.Text }, []string{imageOne, imageTwo}, []string{"", image("a"), image(slices.Repeat([]string{"a"}, 42)...), imageOne + "x", imageOne[1:], digestOf("a")}},
		} {
			others := append(slices.Clone(field.right), field.wrong[1:]...) // where the row does not name it, all but the empty text
			if strings.Contains(names[c.Op], field.name) {
				others = field.wrong
			}
			for i, text := range others {
				put(fmt.Sprint(what, " ", field.name, " number ", i), c, func(c *impl.Cmd) { *field.of(c) = text })
			}
		}
	}
	for from, c := range formedCmds() { // the fields of another row
		for op := range int64(8) {
			if op != c.Op && op+c.Op != impl.CmPin+impl.CmSwept && op+c.Op != impl.CmMark+impl.CmCondemn || op == 0 {
				put(fmt.Sprint("the fields of ", from, " with the Op ", op), c, func(c *impl.Cmd) { c.Op = op })
			}
		}
	}
	return cmds
}

func TestFormedCmds(t *testing.T) {
	for what, c := range formedCmds() {
		if !slowFormed(c) {
			t.Errorf("%s: the slow way says something else", what)
		}
		text := impl.CmdText(c)
		if text == "" || text != rawCmd(c) {
			t.Errorf("%s: %q", what, text)
		}
		if got, ok := impl.ReadCmd(rawCmd(c)); !ok || got != c {
			t.Errorf("%s: read as %+v, %v", what, got, ok)
		}
		if _, code := impl.Apply(impl.State{}, c); code == impl.RgForm || code == impl.RgState {
			t.Errorf("%s: code %d", what, code)
		}
	}
	for what, c := range wrongCmds() {
		if slowFormed(c) {
			t.Errorf("%s: the slow way says something else", what)
		}
		if text := impl.CmdText(c); text != "" {
			t.Errorf("%s: %q", what, text)
		}
		if got, ok := impl.ReadCmd(rawCmd(c)); ok || got != (impl.Cmd{}) {
			t.Errorf("%s: read as %+v, %v", what, got, ok)
		}
		for which, s := range map[string]impl.State{"nothing": {}, "a state": aState()} {
			if got, code := impl.Apply(s, c); code != impl.RgForm || !sameState(got, s) {
				t.Errorf("%s to %s: code %d", what, which, code)
			}
		}
	}
}

// checkApply holds an answer against what is wanted and against the slow way, and looks whether the state is right.
func checkApply(t *testing.T, what string, s impl.State, c impl.Cmd, want impl.State, code int64) impl.State {
	t.Helper()
	got, gotCode := impl.Apply(s, c)
	if gotCode != code || !sameState(got, want) {
		t.Errorf("%s: code %d, not %d; %+v, not %+v", what, gotCode, code, got, want)
	}
	slow, slowCode := slowApply(s, c)
	if slowCode != code || !sameState(slow, want) {
		t.Errorf("%s: the slow way tells code %d", what, slowCode)
	}
	if !impl.StateOk(got) {
		t.Errorf("%s: the state is not right then", what)
	}
	return got
}

// An applied is a command with what it has to do.
type applied struct {
	what   string
	s      impl.State
	c      impl.Cmd
	change func(*impl.State) // in any order
	code   int64
}

func checkApplied(t *testing.T, list []applied) {
	t.Helper()
	for _, r := range list {
		if !impl.StateOk(r.s) {
			t.Errorf("%s: not right ahead of it", r.what)
		}
		want := r.s
		if r.change != nil {
			want = sortedState(altered(r.s, r.change))
		}
		checkApply(t, r.what, r.s, r.c, want, r.code)
		checkOfASession(t, r, want)
	}
}

// checkOfASession: a session changes nothing of what a command does, keeps its code, and the command done once more does nothing.
func checkOfASession(t *testing.T, r applied, want impl.State) {
	t.Helper()
	if len(r.s.Sessions) == 20 {
		return
	}
	c := r.c
	c.Session, c.Serial = 4, 6
	want = sortedState(altered(want, func(s *impl.State) {
		s.Sessions = append(slices.Clone(r.s.Sessions), impl.SessionRow{Id: 4, Serial: 6, Code: r.code})
	}))
	got := checkApply(t, r.what+", of a session", r.s, c, want, r.code)
	again := checkApply(t, r.what+", of a session, sent again", got, c, want, r.code)
	c.Serial = 5
	checkApply(t, r.what+", of a session, late", again, c, want, impl.RgOld)
}

func pinCmd(data string) impl.Cmd { return impl.Cmd{Op: impl.CmPin, Digest: digestOf(data)} }

func manifestCmd(text string) impl.Cmd { return impl.Cmd{Op: impl.CmManifest, Text: text} }

func tagCmd(repo, tag, text string) impl.Cmd {
	return impl.Cmd{Op: impl.CmTag, Repo: repo, Tag: tag, Digest: digestOf(text)}
}

func untagCmd(repo, tag string) impl.Cmd { return impl.Cmd{Op: impl.CmUntag, Repo: repo, Tag: tag} }

func sweptCmd(data string) impl.Cmd { return impl.Cmd{Op: impl.CmSwept, Digest: digestOf(data)} }

// until sets how long a blob is kept.
func until(data string, epoch int64) func(*impl.State) {
	return func(s *impl.State) {
		for i := range s.Blobs {
			if s.Blobs[i].Digest == digestOf(data) {
				s.Blobs[i].Until = epoch
			}
		}
	}
}

// heldUntil sets how long a manifest is kept.
func heldUntil(text string, epoch int64) func(*impl.State) {
	return func(s *impl.State) {
		for i := range s.Manifests {
			if s.Manifests[i].Text == text {
				s.Manifests[i].Until = epoch
			}
		}
	}
}

func morePins(pins ...impl.Pin) func(*impl.State) {
	return func(s *impl.State) { s.Blobs = append(s.Blobs, pins...) }
}

func lessBlobs(datas ...string) func(*impl.State) {
	return func(s *impl.State) {
		s.Blobs = slices.DeleteFunc(s.Blobs, func(p impl.Pin) bool {
			return slices.ContainsFunc(datas, func(data string) bool { return p.Digest == digestOf(data) })
		})
	}
}

func moreCondemned(datas ...string) func(*impl.State) {
	return func(s *impl.State) {
		for _, data := range datas {
			s.Condemned = append(s.Condemned, digestOf(data))
		}
	}
}

func lessManifests(texts ...string) func(*impl.State) {
	return func(s *impl.State) {
		s.Manifests = slices.DeleteFunc(s.Manifests, func(h impl.Held) bool { return slices.Contains(texts, h.Text) })
	}
}

func both(changes ...func(*impl.State)) func(*impl.State) {
	return func(s *impl.State) {
		for _, change := range changes {
			change(s)
		}
	}
}

func atEpoch(epoch int64) func(*impl.State) {
	return func(s *impl.State) { s.Epoch = epoch }
}

func same(*impl.State) {}

func TestApplyOfPins(t *testing.T) {
	full := stateOf(3, 3, 200, 5, 0)
	checkApplied(t, []applied{
		{"a new blob", aState(), pinCmd("new"), morePins(pin("new", 9)), impl.RgOk},
		{"the first of all", impl.State{}, pinCmd("new"), morePins(pin("new", 2)), impl.RgOk},
		{"a blob of no bytes", aState(), pinCmd(""), morePins(pin("", 9)), impl.RgOk},
		{"one with a lesser Until", aState(), pinCmd("b"), until("b", 9), impl.RgOk},
		{"one with an Until of 0", aState(), pinCmd("c"), until("c", 9), impl.RgOk},
		{"one with the same Until", aState(), pinCmd("a"), same, impl.RgOk},
		{"one with a greater Until", aState(), pinCmd("d"), same, impl.RgOk},
		{"one with an Until one below", altered(aState(), until("d", 8)), pinCmd("d"), until("d", 9), impl.RgOk},
		{"one with an Until one above", altered(aState(), until("d", 10)), pinCmd("d"), same, impl.RgOk},
		{"one with the greatest Until", altered(aState(), until("e", impl.MaxNumber)), pinCmd("e"), same, impl.RgOk},
		{"at the last epoch", altered(aState(), atEpoch(mostEpoch)), pinCmd("e"), until("e", impl.MaxNumber), impl.RgOk},
		{"a new one at the last epoch", altered(aState(), atEpoch(mostEpoch)), pinCmd("new"), morePins(pin("new", impl.MaxNumber)), impl.RgOk},
		{"a condemned one", aState(), pinCmd("x"), nil, impl.RgCondemned},
		{"another condemned one", aState(), pinCmd("y"), nil, impl.RgCondemned},
		{"the last one there is room for", stateOf(3, 3, 199, 5, 0), pinCmd("new"), morePins(pin("new", 6)), impl.RgOk},
		{"one too many", full, pinCmd("new"), nil, impl.RgFull},
		{"one that is there among 200", full, pinCmd("blob 150"), until("blob 150", 6), impl.RgOk},
		{"a condemned one, and one too many", full, pinCmd("gone 3"), nil, impl.RgCondemned},
		{"one more where all others are full", stateOf(40, 100, 199, 200, 20), pinCmd("new"), morePins(pin("new", 6)), impl.RgOk},
	})
}

func TestApplyOfManifests(t *testing.T) {
	great := image(slices.Repeat([]string{"a", "e"}, 20)...) + "layer " + digestOf("g") + "\n"
	more := func(text string, until int64) func(*impl.State) {
		return func(s *impl.State) { s.Manifests = append(s.Manifests, held(text, until)) }
	}
	full := stateOf(40, 3, 60, 2, 0)
	checkApplied(t, []applied{
		{"a new one", aState(), manifestCmd(image("e", "f")), more(image("e", "f"), 9), impl.RgOk},
		{"a new one of one blob", aState(), manifestCmd(image("e", "e")), more(image("e", "e"), 9), impl.RgOk},
		{"a new one with 40 layers", aState(), manifestCmd(great), more(great, 9), impl.RgOk},
		{"the blobs of another one in another order", aState(), manifestCmd(image("b", "a", "a")), more(image("b", "a", "a"), 9), impl.RgOk},
		{"one with a lesser Until", aState(), manifestCmd(imageTwo), heldUntil(imageTwo, 9), impl.RgOk},
		{"one without a tag", aState(), manifestCmd(imageThree), heldUntil(imageThree, 9), impl.RgOk},
		{"one with the same Until", aState(), manifestCmd(imageOne), same, impl.RgOk},
		{"one with a greater Until", altered(aState(), heldUntil(imageOne, 10)), manifestCmd(imageOne), same, impl.RgOk},
		{"one with an Until one below", altered(aState(), heldUntil(imageOne, 8)), manifestCmd(imageOne), heldUntil(imageOne, 9), impl.RgOk},
		{"at the last epoch", altered(aState(), atEpoch(mostEpoch)), manifestCmd(imageOne), heldUntil(imageOne, impl.MaxNumber), impl.RgOk},
		{"no blobs at all", impl.State{}, manifestCmd(imageOne), nil, impl.RgUnknown},
		{"a config that is not there", aState(), manifestCmd(image("new", "a")), nil, impl.RgUnknown},
		{"a layer that is not there", aState(), manifestCmd(image("a", "new")), nil, impl.RgUnknown},
		{"a layer in the middle that is not there", aState(), manifestCmd(image("a", "b", "new", "c")), nil, impl.RgUnknown},
		{"the last layer that is not there", aState(), manifestCmd(image("a", "b", "c", "new")), nil, impl.RgUnknown},
		{"a condemned blob", aState(), manifestCmd(image("a", "x")), nil, impl.RgUnknown},
		{"a manifest in place of a blob", aState(), manifestCmd(image("a", imageOne)), nil, impl.RgUnknown},
		{"the last one there is room for", stateOf(39, 3, 60, 2, 0), manifestCmd(image("blob 50", "blob 51")), more(image("blob 50", "blob 51"), 6), impl.RgOk},
		{"one too many", full, manifestCmd(image("blob 50", "blob 51")), nil, impl.RgFull},
		{"one that is there among 40", full, manifestCmd(image("blob 0", "blob 39")), heldUntil(image("blob 0", "blob 39"), 6), impl.RgOk},
		{"a blob that is not there, and one too many", full, manifestCmd(image("blob 50", "new")), nil, impl.RgUnknown},
		{"one more where all others are full", stateOf(39, 100, 200, 200, 20), manifestCmd(image("blob 50", "blob 51")), more(image("blob 50", "blob 51"), 6), impl.RgOk},
	})
}

func TestApplyOfTags(t *testing.T) {
	set := func(repo, tag, text string) func(*impl.State) {
		return func(s *impl.State) {
			s.Tags = slices.DeleteFunc(s.Tags, func(row impl.TagRow) bool { return row.Repo == repo && row.Tag == tag })
			s.Tags = append(s.Tags, impl.TagRow{Repo: repo, Tag: tag, Digest: digestOf(text)})
		}
	}
	full := stateOf(3, 100, 3, 2, 0)
	zero, one := image("blob 0", "blob 0"), image("blob 0", "blob 1")
	checkApplied(t, []applied{
		{"a new one", aState(), tagCmd("app", "v3", imageOne), set("app", "v3", imageOne), impl.RgOk},
		{"a new one ahead of all", aState(), tagCmd("aaa", "v9", imageThree), set("aaa", "v9", imageThree), impl.RgOk},
		{"a new one in the middle", aState(), tagCmd("app", "v10", imageOne), set("app", "v10", imageOne), impl.RgOk},
		{"one that stands in another repository", aState(), tagCmd("lib/x", "v2", imageOne), set("lib/x", "v2", imageOne), impl.RgOk},
		{"one of another repository", aState(), tagCmd("lib", "v1", imageOne), set("lib", "v1", imageOne), impl.RgOk},
		{"one text put together", aState(), tagCmd("ap", "pv1", imageOne), set("ap", "pv1", imageOne), impl.RgOk},
		{"set anew", aState(), tagCmd("app", "v1", imageThree), set("app", "v1", imageThree), impl.RgOk},
		{"set to what it is", aState(), tagCmd("app", "v1", imageTwo), same, impl.RgOk},
		{"of no manifest", aState(), tagCmd("app", "v1", "new"), nil, impl.RgUnknown},
		{"a new one of no manifest", aState(), tagCmd("new", "v1", "new"), nil, impl.RgUnknown},
		{"of a blob", aState(), tagCmd("app", "v1", "a"), nil, impl.RgUnknown},
		{"of nothing at all", impl.State{}, tagCmd("app", "v1", imageOne), nil, impl.RgUnknown},
		{"the last one there is room for", stateOf(3, 99, 3, 2, 0), tagCmd("new", "v1", one), set("new", "v1", one), impl.RgOk},
		{"one too many", full, tagCmd("new", "v1", one), nil, impl.RgFull},
		{"one too many in a repository that is there", full, tagCmd("repo0", "t1", one), nil, impl.RgFull},
		{"one that is there among 100", full, tagCmd("repo1", "t1", zero), set("repo1", "t1", zero), impl.RgOk},
		{"of no manifest, and one too many", full, tagCmd("new", "v1", "new"), nil, impl.RgUnknown},
		{"one more where all others are full", stateOf(40, 99, 200, 200, 20), tagCmd("new", "v1", one), set("new", "v1", one), impl.RgOk},
	})
}

func TestApplyOfUntag(t *testing.T) {
	gone := func(repo, tag string) func(*impl.State) {
		return func(s *impl.State) {
			s.Tags = slices.DeleteFunc(s.Tags, func(row impl.TagRow) bool { return row.Repo == repo && row.Tag == tag })
		}
	}
	checkApplied(t, []applied{
		{"the first", aState(), untagCmd("app", "v1"), gone("app", "v1"), impl.RgOk},
		{"the last of its manifest", aState(), untagCmd("app", "v2"), gone("app", "v2"), impl.RgOk},
		{"the last", aState(), untagCmd("lib/x", "v1"), gone("lib/x", "v1"), impl.RgOk},
		{"one of 100", stateOf(40, 100, 200, 200, 20), untagCmd("repo1", "t50"), gone("repo1", "t50"), impl.RgOk},
		{"a tag that is none", aState(), untagCmd("app", "v3"), nil, impl.RgUnknown},
		{"a tag of another repository", aState(), untagCmd("lib/x", "v2"), nil, impl.RgUnknown},
		{"a repository that has none", aState(), untagCmd("lib", "v1"), nil, impl.RgUnknown},
		{"one text put together", aState(), untagCmd("ap", "pv1"), nil, impl.RgUnknown},
		{"a tag in great letters", aState(), untagCmd("app", "V1"), nil, impl.RgUnknown},
		{"nothing is there", impl.State{}, untagCmd("app", "v1"), nil, impl.RgUnknown},
	})
}

func TestApplyOfMark(t *testing.T) {
	mark := impl.Cmd{Op: impl.CmMark}
	next := func(s *impl.State) { s.Epoch++ }
	checkApplied(t, []applied{
		{"one without a tag, below the new epoch", aState(), mark, both(next, lessManifests(imageThree)), impl.RgOk},
		{"one without a tag, at the new epoch", altered(aState(), heldUntil(imageThree, 8)), mark, next, impl.RgOk},
		{"one without a tag, above the new epoch", altered(aState(), heldUntil(imageThree, 9)), mark, next, impl.RgOk},
		{"one without a tag, below the old epoch", altered(aState(), heldUntil(imageThree, 6)), mark, both(next, lessManifests(imageThree)), impl.RgOk},
		{"one without a tag, kept until 0", altered(aState(), heldUntil(imageThree, 0)), mark, both(next, lessManifests(imageThree)), impl.RgOk},
		{"all without tags", altered(aState(), dropTags), mark, both(next, lessManifests(imageTwo, imageThree)), impl.RgOk},
		{"all without tags, kept until 0", altered(aState(), dropTags, heldUntil(imageOne, 0)), mark, both(next, lessManifests(imageOne, imageTwo, imageThree)), impl.RgOk},
		{"none at all", altered(aState(), dropManifests), mark, next, impl.RgOk},
		{"nothing", impl.State{}, mark, next, impl.RgOk},
		{"one below the last epoch", altered(aState(), atEpoch(mostEpoch-1)), mark, both(next, lessManifests(imageThree)), impl.RgOk},
		{"at the last epoch", altered(aState(), atEpoch(mostEpoch)), mark, nil, impl.RgFull},
		{"at the last epoch, with nothing to go", impl.State{Epoch: mostEpoch}, mark, nil, impl.RgFull},
		{"in a full state", stateOf(40, 100, 200, 200, 20), mark, next, impl.RgOk},
		{"in a full state without tags", altered(stateOf(40, 0, 200, 200, 20), atEpoch(5)), mark, both(next, func(s *impl.State) { s.Manifests = nil }), impl.RgOk},
	})
}

func TestApplyOfCondemn(t *testing.T) {
	condemn := impl.Cmd{Op: impl.CmCondemn}
	names := func(from, to int) []string {
		var list []string
		for i := from; i < to; i++ {
			list = append(list, fmt.Sprint("blob ", i))
		}
		return list
	}
	gone := func(datas ...string) func(*impl.State) { return both(lessBlobs(datas...), moreCondemned(datas...)) }
	checkApplied(t, []applied{
		{"one below Epoch", aState(), condemn, gone("f"), impl.RgOk},
		{"two below Epoch", altered(aState(), until("g", 6)), condemn, gone("f", "g"), impl.RgOk},
		{"one at Epoch", altered(aState(), until("f", 7)), condemn, nil, impl.RgOk},
		{"one above Epoch", altered(aState(), until("f", 8)), condemn, nil, impl.RgOk},
		{"one kept until 0", altered(aState(), until("e", 0)), condemn, gone("e", "f"), impl.RgOk},
		{"what manifests without tags name", altered(aState(), dropTags, until("d", 0)), condemn, gone("f"), impl.RgOk},
		{"what no manifest names any more", altered(aState(), dropTags, lessManifests(imageThree), until("d", 6)), condemn, gone("d", "f"), impl.RgOk},
		{"no manifests", altered(aState(), dropManifests), condemn, gone("b", "c", "f"), impl.RgOk},
		{"at the epoch 0", altered(aState(), atEpoch(0), until("f", 0)), condemn, nil, impl.RgOk},
		{"at the last epoch", altered(aState(), atEpoch(mostEpoch)), condemn, gone("e", "f", "g"), impl.RgOk},
		{"nothing", impl.State{}, condemn, nil, impl.RgOk},
		{"all of 200", stateOf(0, 0, 200, 0, 0), condemn, gone(names(0, 200)...), impl.RgOk},
		{"but those that are named", stateOf(40, 0, 200, 40, 0), condemn, gone(names(40, 200)...), impl.RgOk},
		{"200 in all", stateOf(0, 0, 50, 150, 0), condemn, gone(names(0, 50)...), impl.RgOk},
		{"201 in all", stateOf(0, 0, 51, 150, 0), condemn, nil, impl.RgFull},
		{"201 in all, by one", stateOf(1, 1, 2, 200, 0), condemn, nil, impl.RgFull},
		{"201 in all, but for one that is named", stateOf(1, 1, 51, 150, 0), condemn, gone(names(1, 51)...), impl.RgOk},
		{"201 in all, but for one that is kept", altered(stateOf(0, 0, 51, 150, 0), until("blob 9", 4)), condemn, gone(append(names(0, 9), names(10, 51)...)...), impl.RgOk},
		{"none where 200 are there", stateOf(1, 1, 1, 200, 0), condemn, nil, impl.RgOk},
		{"none of 200 where 200 are there", altered(stateOf(0, 0, 200, 200, 0), atEpoch(3)), condemn, nil, impl.RgOk},
		{"400 in all", stateOf(0, 0, 200, 200, 0), condemn, nil, impl.RgFull},
	})
}

func TestApplyOfSwept(t *testing.T) {
	less := func(data string) func(*impl.State) {
		return func(s *impl.State) {
			s.Condemned = slices.DeleteFunc(s.Condemned, func(d string) bool { return d == digestOf(data) })
		}
	}
	checkApplied(t, []applied{
		{"one of two", aState(), sweptCmd("x"), less("x"), impl.RgOk},
		{"the other one", aState(), sweptCmd("y"), less("y"), impl.RgOk},
		{"the only one", stateOf(0, 0, 0, 1, 0), sweptCmd("gone 0"), less("gone 0"), impl.RgOk},
		{"one of 200", stateOf(40, 100, 200, 200, 20), sweptCmd("gone 77"), less("gone 77"), impl.RgOk},
		{"one that is not there", aState(), sweptCmd("z"), nil, impl.RgUnknown},
		{"a blob that is named", aState(), sweptCmd("a"), nil, impl.RgUnknown},
		{"a blob that is not named", aState(), sweptCmd("f"), nil, impl.RgUnknown},
		{"a manifest", aState(), sweptCmd(imageOne), nil, impl.RgUnknown},
		{"nothing is there", impl.State{}, sweptCmd("x"), nil, impl.RgUnknown},
	})
}

func of(session, serial int64, c impl.Cmd) impl.Cmd {
	c.Session, c.Serial = session, serial
	return c
}

func session(id, serial, code int64) func(*impl.State) {
	return func(s *impl.State) {
		s.Sessions = slices.DeleteFunc(s.Sessions, func(row impl.SessionRow) bool { return row.Id == id })
		s.Sessions = append(s.Sessions, impl.SessionRow{Id: id, Serial: serial, Code: code})
	}
}

func TestApplyOfSessions(t *testing.T) {
	mark, next := impl.Cmd{Op: impl.CmMark}, both(func(s *impl.State) { s.Epoch++ }, lessManifests(imageThree))
	refused := untagCmd("app", "none")
	full := stateOf(3, 3, 5, 2, 20)
	for _, r := range []applied{
		{"none, with a Serial", aState(), of(0, 5, mark), next, impl.RgOk},
		{"none, with a Serial, refused", aState(), of(0, 5, refused), nil, impl.RgUnknown},
		{"a new one", aState(), of(1, 1, mark), both(next, session(1, 1, 0)), impl.RgOk},
		{"a new one with the Serial 0", aState(), of(1, 0, mark), both(next, session(1, 0, 0)), impl.RgOk},
		{"a new one in the middle", aState(), of(5, 9, mark), both(next, session(5, 9, 0)), impl.RgOk},
		{"a new one at the end", aState(), of(impl.MaxNumber, impl.MaxNumber, mark), both(next, session(impl.MaxNumber, impl.MaxNumber, 0)), impl.RgOk},
		{"a new one, refused", aState(), of(1, 1, refused), session(1, 1, 3), impl.RgUnknown},
		{"a new one, condemned", aState(), of(1, 1, pinCmd("x")), session(1, 1, 4), impl.RgCondemned},
		{"a new one, full", stateOf(3, 3, 200, 2, 2), of(9, 1, pinCmd("new")), session(9, 1, 5), impl.RgFull},
		{"a Serial below", aState(), of(3, 4, mark), nil, impl.RgOld},
		{"a Serial far below", aState(), of(3, 0, mark), nil, impl.RgOld},
		{"a Serial below, refused", aState(), of(3, 4, refused), nil, impl.RgOld},
		{"the Serial there", aState(), of(3, 5, mark), nil, impl.RgOk},
		{"the Serial there, refused now", aState(), of(3, 5, refused), nil, impl.RgOk},
		{"the Serial there, refused then", aState(), of(8, 0, mark), nil, impl.RgUnknown},
		{"the Serial there, with another code", aState(), of(9, impl.MaxNumber, mark), nil, 77},
		{"a Serial below the greatest", aState(), of(9, impl.MaxNumber-1, mark), nil, impl.RgOld},
		{"a Serial one above", aState(), of(3, 6, mark), both(next, session(3, 6, 0)), impl.RgOk},
		{"a Serial far above", aState(), of(3, impl.MaxNumber, mark), both(next, session(3, impl.MaxNumber, 0)), impl.RgOk},
		{"a Serial above, refused", aState(), of(3, 6, refused), session(3, 6, 3), impl.RgUnknown},
		{"a Serial above one that was refused", aState(), of(8, 1, mark), both(next, session(8, 1, 0)), impl.RgOk},
		{"the last one there is room for", stateOf(3, 3, 5, 2, 19), of(50, 1, mark), both(func(s *impl.State) { s.Epoch++ }, session(50, 1, 0)), impl.RgOk},
		{"one too many", full, of(50, 1, mark), nil, impl.RgFull},
		{"one too many, ahead of all", altered(full, func(s *impl.State) {
			s.Sessions[0].Id, s.Sessions[19].Id = 2, 90
			s.Sessions = sortedSessions(s.Sessions)
		}), of(1, 1, mark), nil, impl.RgFull},
		{"one too many, refused", full, of(50, 1, refused), nil, impl.RgFull},
		{"one too many, condemned", full, of(50, 1, pinCmd("gone 1")), nil, impl.RgFull},
		{"none where 20 are there", full, mark, func(s *impl.State) { s.Epoch++ }, impl.RgOk},
		{"one that is there among 20, above", full, of(20, 11, mark), both(func(s *impl.State) { s.Epoch++ }, session(20, 11, 0)), impl.RgOk},
		{"one that is there among 20, refused", full, of(20, 11, refused), session(20, 11, 3), impl.RgUnknown},
		{"one that is there among 20, at", full, of(20, 10, mark), nil, impl.RgOk},
		{"one that is there among 20, below", full, of(20, 9, mark), nil, impl.RgOld},
		{"not formed, the Serial there", aState(), of(9, impl.MaxNumber, impl.Cmd{Op: 8}), nil, impl.RgForm},
		{"not formed, a Serial below", aState(), of(3, 4, impl.Cmd{Op: impl.CmMark, Tag: "t"}), nil, impl.RgForm},
		{"not formed, a new one", aState(), of(1, 1, impl.Cmd{Op: impl.CmPin}), nil, impl.RgForm},
		{"not formed, one too many", full, of(50, 1, impl.Cmd{}), nil, impl.RgForm},
	} {
		want := r.s
		if r.change != nil {
			want = sortedState(altered(r.s, r.change))
		}
		got := checkApply(t, r.what, r.s, r.c, want, r.code)
		if r.c.Session != 0 {
			checkApply(t, r.what+", sent again", got, r.c, want, r.code)
		}
	}
}

// sortedSessions is the list without those that stand twice.
func sortedSessions(rows []impl.SessionRow) []impl.SessionRow {
	rows = sortedState(impl.State{Sessions: rows}).Sessions
	rows = slices.CompactFunc(rows, func(a, b impl.SessionRow) bool { return a.Id == b.Id })
	for len(rows) < 20 {
		rows = append(rows, impl.SessionRow{Id: rows[len(rows)-1].Id + 1})
	}
	return rows
}

func TestStatesThatAreNotRight(t *testing.T) {
	cmds := formedCmds()
	cmds["not formed"], cmds["of a session"] = impl.Cmd{}, of(3, 5, impl.Cmd{Op: impl.CmMark})
	for what, s := range wrongStates() {
		for which, c := range cmds {
			if got, code := impl.Apply(s, c); code != impl.RgState || !isZeroState(got) {
				t.Errorf("%s to %s: code %d", which, what, code)
			}
		}
		if text := impl.StateText(s); text != "" {
			t.Errorf("%s: a text of %d bytes", what, len(text))
		}
		if got, ok := impl.ReadState(rawState(s)); ok || !isZeroState(got) {
			t.Errorf("%s: read", what)
		}
		if list := impl.Needed(s); len(list) != 0 {
			t.Errorf("%s: %q needed", what, list)
		}
		for _, row := range append(s.Tags, impl.TagRow{Repo: "app", Tag: "v1"}) {
			if digest, ok := impl.TagAt(s, row.Repo, row.Tag); ok || digest != "" {
				t.Errorf("%s: %s at %s:%s", what, digest, row.Repo, row.Tag)
			}
		}
	}
}

// From a push to the sweep: what no tag asks for goes by the epochs, and a blob that was condemned may come back only behind the sweep.
func TestTheLifeOfABlob(t *testing.T) {
	s := impl.State{}
	do := func(c impl.Cmd, code int64) {
		t.Helper()
		s = checkApply(t, fmt.Sprintf("%+v", c), s, c, first(slowApply(s, c)), code)
	}
	mark, condemn := impl.Cmd{Op: impl.CmMark}, impl.Cmd{Op: impl.CmCondemn}
	text := image("a", "b")
	do(pinCmd("a"), impl.RgOk)
	do(manifestCmd(text), impl.RgUnknown)
	do(pinCmd("b"), impl.RgOk)
	do(manifestCmd(text), impl.RgOk)
	do(tagCmd("app", "v1", text), impl.RgOk)
	for range 5 {
		do(mark, impl.RgOk)
		do(condemn, impl.RgOk)
	}
	if len(s.Manifests) != 1 || len(s.Blobs) != 2 || len(s.Condemned) != 0 {
		t.Fatalf("%+v", s)
	}
	do(untagCmd("app", "v1"), impl.RgOk)
	do(condemn, impl.RgOk)
	if len(s.Manifests) != 1 || len(s.Blobs) != 2 {
		t.Fatalf("%+v", s)
	}
	do(mark, impl.RgOk)
	if len(s.Manifests) != 0 || len(s.Blobs) != 2 {
		t.Fatalf("%+v", s)
	}
	do(pinCmd("a"), impl.RgOk)
	do(condemn, impl.RgOk)
	if len(s.Blobs) != 1 || !slices.Equal(s.Condemned, []string{digestOf("b")}) {
		t.Fatalf("%+v", s)
	}
	do(manifestCmd(text), impl.RgUnknown)
	do(pinCmd("b"), impl.RgCondemned)
	do(sweptCmd("b"), impl.RgOk)
	do(sweptCmd("b"), impl.RgUnknown)
	do(pinCmd("b"), impl.RgOk)
	do(manifestCmd(text), impl.RgOk)
	if s.Epoch != 6 || len(s.Condemned) != 0 || s.Manifests[0].Until != 8 {
		t.Fatalf("%+v", s)
	}
}

func first(s impl.State, _ int64) impl.State { return s }

func TestNeededAndTagAt(t *testing.T) {
	s := aState()
	want := []string{digestOf("a"), digestOf("b"), digestOf("c"), digestOf("d")}
	slices.Sort(want)
	if got := impl.Needed(s); !slices.Equal(got, want) {
		t.Errorf("%q", got)
	}
	for name, digest := range map[string]string{"app:v1": digestOf(imageTwo), "app:v2": digestOf(imageOne), "lib/x:v1": digestOf(imageTwo)} {
		repo, tag, _ := strings.Cut(name, ":")
		if got, ok := impl.TagAt(s, repo, tag); !ok || got != digest {
			t.Errorf("%s: %q, %v", name, got, ok)
		}
	}
	for _, name := range []string{"app:v3", "app:", "app:V1", ":v1", ":", "lib/x:v2", "lib:v1", "ap:pv1", "appv:1", "APP:v1", "app/:v1", "app:v1\x00", "zzz:v1"} {
		repo, tag, _ := strings.Cut(name, ":")
		if got, ok := impl.TagAt(s, repo, tag); ok || got != "" {
			t.Errorf("%s: %q, %v", name, got, ok)
		}
	}
	for what, s := range rightStates() {
		if got := impl.Needed(s); !slices.Equal(got, slowNeeded(s)) {
			t.Errorf("%s: %q needed", what, got)
		}
		for _, row := range s.Tags {
			if got, ok := impl.TagAt(s, row.Repo, row.Tag); !ok || got != row.Digest {
				t.Errorf("%s: %q, %v", what, got, ok)
			}
		}
	}
}

func TestConstantsOfTheRegistry(t *testing.T) {
	for i, got := range []int64{impl.RgOk, impl.RgState, impl.RgForm, impl.RgUnknown, impl.RgCondemned, impl.RgFull, impl.RgOld} {
		if got != int64(i) {
			t.Errorf("the code %d is %d", i, got)
		}
	}
	for i, got := range []int64{impl.CmPin, impl.CmManifest, impl.CmTag, impl.CmUntag, impl.CmMark, impl.CmCondemn, impl.CmSwept} {
		if got != int64(i+1) {
			t.Errorf("the Op %d is %d", i+1, got)
		}
	}
	if impl.MaxManifests != 40 || impl.MaxTags != 100 || impl.MaxSessions != 20 {
		t.Error("limits")
	}
}
