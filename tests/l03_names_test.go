package tests

import (
	"fmt"
	"regexp"
	"slices"
	"strings"
	"testing"

	"loop.example/g00141/impl"
)

var repoForm = regexp.MustCompile(`\A` + repoPart + `(/` + repoPart + `)*\z`)

const repoPart = `[a-z0-9]+((\.|_|__|-+)[a-z0-9]+)*`

// textsOver calls each with all texts of at most n letters out of letters.
func textsOver(letters string, n int, each func(string)) {
	texts := []string{""}
	for range n + 1 {
		var longer []string
		for _, s := range texts {
			each(s)
			for i := range len(letters) {
				longer = append(longer, s+letters[i:i+1])
			}
		}
		texts = longer
	}
}

// layersOf are n digests, not rising, of which each tenth stands twice.
func layersOf(n int) []string {
	var layers []string
	for i := range n {
		layers = append(layers, digestOf(fmt.Sprint("layer ", i-i%10/9)))
	}
	return layers
}

func manifestText(config string, layers []string) string {
	s := "config " + config + "\n"
	for _, l := range layers {
		s += "layer " + l + "\n"
	}
	return s
}

func TestRepoOkForms(t *testing.T) {
	for s, want := range map[string]bool{
		"a": true, "0": true, "9z": true, "app": true, "a/b": true, "a/b/c/d": true, "0/1": true,
		"a.b": true, "a_b": true, "a__b": true, "a-b": true, "a--b": true, "a-----b": true, "a.b_c__d-e--f": true, "a.b/c_d/e__f/g-h": true,
		"a.b.c": true, "a_b_c": true, "a-b/c--d": true, "a__b__c": true,
		"": false, "/": false, "//": false, ".": false, "_": false, "__": false, "-": false, "--": false,
		"a..b": false, "a___b": false, "a____b": false, "a._b": false, "a_.b": false, "a-_b": false, "a_-b": false, "a.-b": false, "a-.b": false, "a__.b": false, "a__-b": false, "a--_b": false, "a--.b": false,
		".a": false, "_a": false, "__a": false, "-a": false, "--a": false, "a.": false, "a_": false, "a__": false, "a-": false, "a--": false,
		"b/.a": false, "b/_a": false, "b/-a": false, "a./b": false, "a_/b": false, "a__/b": false, "a-/b": false, "b/a.": false, "b/a-": false, "b/a_": false,
		"/a": false, "a/": false, "/a/": false, "a//b": false, "a///b": false, "//a": false, "a//": false, "a/b/": false, "a/b//c": false,
		"A": false, "aB": false, "a/B": false, "a b": false, " a": false, "a ": false, "a\n": false, "a\x00": false, "a:b": false, "a@b": false, "a+b": false, "é": false, "a\xff": false, "a/b.C": false,
	} {
		if got := impl.RepoOk(s); got != want {
			t.Errorf("RepoOk(%q) is %v", s, got)
		}
	}
}

func TestRepoOkOfAllShortTexts(t *testing.T) {
	textsOver("a0._-/A", 6, func(s string) {
		if got := impl.RepoOk(s); got != repoForm.MatchString(s) {
			t.Errorf("RepoOk(%q) is %v", s, got)
		}
	})
}

func TestRepoOkOfEachByte(t *testing.T) {
	for c := range 256 {
		b := string([]byte{byte(c)})
		for _, s := range []string{b, b + "a", "a" + b, "a" + b + "b", "x/a" + b + "b", "a-" + b, b + "/a"} {
			if got := impl.RepoOk(s); got != repoForm.MatchString(s) {
				t.Errorf("RepoOk(%q) is %v", s, got)
			}
		}
	}
}

func TestRepoOkOfEachLength(t *testing.T) {
	for _, n := range []int{1, 2, 99, 100, 101, 102, 128, 1000, 100000} {
		for _, s := range []string{
			strings.Repeat("a", n),
			strings.Repeat("a/", n)[:n-1] + "b",
			"a" + strings.Repeat("-", max(n-2, 0)) + "b",
		} {
			if want := len(s) <= 100 && repoForm.MatchString(s); impl.RepoOk(s) != want {
				t.Errorf("RepoOk of %d bytes %.20q.. is %v", len(s), s, !want)
			}
		}
		if got := impl.RepoOk(strings.Repeat("a", n)); got != (n <= 100) {
			t.Errorf("RepoOk of %d bytes is %v", n, got)
		}
	}
	for _, tail := range []string{".b", "_b", "__b", "-b", "/b", "---b"} {
		if full := strings.Repeat("x", 100-len(tail)) + tail; !impl.RepoOk(full) || impl.RepoOk("x"+full) {
			t.Errorf("100 and 101 bytes with %q at the end", tail)
		}
	}
}

func TestTagOkLengths(t *testing.T) {
	for n, want := range map[int]bool{0: false, 1: true, 2: true, 100: true, 127: true, 128: true, 129: false, 130: false, 256: false, 1000: false} {
		for _, b := range []string{"a", "Z", "0", "_"} {
			if got := impl.TagOk(strings.Repeat(b, n)); got != want {
				t.Errorf("TagOk of %d %s is %v", n, b, got)
			}
		}
	}
	if !impl.TagOk("v"+strings.Repeat(".-", 63)+"_") || impl.TagOk("v"+strings.Repeat(".-", 64)) {
		t.Error("128 and 129 bytes")
	}
}

func TestTagOkOfEachByte(t *testing.T) {
	const inner = "abcdefghijklmnopqrstuvwxyzABCDEFGHIJKLMNOPQRSTUVWXYZ0123456789_.-"
	for c := range 256 {
		b := string([]byte{byte(c)})
		within := strings.Contains(inner, b)
		first := within && b != "." && b != "-"
		for s, want := range map[string]bool{b: first, b + "x": first, b + ".": first, "x" + b: within, "x" + b + "x": within, "_" + b: within} {
			if got := impl.TagOk(s); got != want {
				t.Errorf("TagOk(%q) is %v", s, got)
			}
		}
	}
	for s, want := range map[string]bool{"v1.2-rc_3": true, "LATEST": true, "_": true, "..": false, "--": false, "a..b": true, "a---": true, "a___.": true} {
		if got := impl.TagOk(s); got != want {
			t.Errorf("TagOk(%q) is %v", s, got)
		}
	}
}

func TestReadRefForms(t *testing.T) {
	d := digestOf("x")
	longTag := strings.Repeat("T", 128)
	longRepo := strings.Repeat("r", 100)
	for _, r := range []struct {
		text string
		ref  impl.Ref
		code int64
	}{
		{"a", impl.Ref{Repo: "a"}, 0},
		{"a/b-c", impl.Ref{Repo: "a/b-c"}, 0},
		{"a:v1", impl.Ref{Repo: "a", Tag: "v1"}, 0},
		{"a@" + d, impl.Ref{Repo: "a", Digest: d}, 0},
		{"a/b:v1@" + d, impl.Ref{Repo: "a/b", Tag: "v1", Digest: d}, 0},
		{longRepo + ":" + longTag + "@" + d, impl.Ref{Repo: longRepo, Tag: longTag, Digest: d}, 0},
		{"sha256:" + strings.Repeat("0", 64), impl.Ref{Repo: "sha256", Tag: strings.Repeat("0", 64)}, 0},
		{"", impl.Ref{}, impl.RfRepo},
		{":", impl.Ref{}, impl.RfRepo},
		{"@", impl.Ref{}, impl.RfRepo},
		{":v1", impl.Ref{}, impl.RfRepo},
		{"@" + d, impl.Ref{}, impl.RfRepo},
		{"A", impl.Ref{}, impl.RfRepo},
		{"A:v1@" + d, impl.Ref{}, impl.RfRepo},
		{"a/:v1", impl.Ref{}, impl.RfRepo},
		{"r" + longRepo, impl.Ref{}, impl.RfRepo},
		{"a ", impl.Ref{}, impl.RfRepo},
		{"a:", impl.Ref{}, impl.RfTag},
		{"a:@" + d, impl.Ref{}, impl.RfTag},
		{"a:.v", impl.Ref{}, impl.RfTag},
		{"a:-v@" + d, impl.Ref{}, impl.RfTag},
		{"a:b:c", impl.Ref{}, impl.RfTag},
		{"a::b", impl.Ref{}, impl.RfTag},
		{"a:b:@" + d, impl.Ref{}, impl.RfTag},
		{"a:" + d, impl.Ref{}, impl.RfTag},
		{"a:b/c", impl.Ref{}, impl.RfTag},
		{"a:T" + longTag, impl.Ref{}, impl.RfTag},
		{"a:b\n", impl.Ref{}, impl.RfTag},
		{"a@", impl.Ref{}, impl.RfDigest},
		{"a:v1@", impl.Ref{}, impl.RfDigest},
		{"a@x", impl.Ref{}, impl.RfDigest},
		{"a@" + d[7:], impl.Ref{}, impl.RfDigest},
		{"a@" + d + "0", impl.Ref{}, impl.RfDigest},
		{"a@" + d[:70], impl.Ref{}, impl.RfDigest},
		{"a@" + d + ":v1", impl.Ref{}, impl.RfDigest},
		{"a@v:1", impl.Ref{}, impl.RfDigest},
		{"a@:", impl.Ref{}, impl.RfDigest},
		{"a@@" + d, impl.Ref{}, impl.RfDigest},
		{"a@" + d + "@" + d, impl.Ref{}, impl.RfDigest},
		{"a:v1@" + d + "\n", impl.Ref{}, impl.RfDigest},
		{"a@SHA256:" + d[7:], impl.Ref{}, impl.RfDigest},
	} {
		if ref, code := impl.ReadRef(r.text); ref != r.ref || code != r.code {
			t.Errorf("ReadRef(%q) is %+v, %d, not %d", r.text, ref, code, r.code)
		}
	}
}

func TestReadRefWithTwoFaultsAtOnce(t *testing.T) {
	for text, want := range map[string]int64{
		"A:":     impl.RfRepo, // Repo and tag
		":":      impl.RfRepo,
		"A@x":    impl.RfRepo, // Repo and digest
		"@":      impl.RfRepo,
		"A:.@x":  impl.RfRepo, // all three
		":@":     impl.RfRepo,
		"a:@":    impl.RfTag, // tag and digest
		"a:.v@x": impl.RfTag,
		"a:b:c@": impl.RfTag,
	} {
		if ref, code := impl.ReadRef(text); ref != (impl.Ref{}) || code != want {
			t.Errorf("ReadRef(%q) is %+v, %d, not %d", text, ref, code, want)
		}
	}
}

// refPieces are right and wrong ones for each field.
func refPieces() (repos, tags, digests []string) {
	d := digestOf("x")
	repos = []string{"a", "a/b.c", strings.Repeat("r", 100), "", "A", "a:b", "a@b", "a/", "a__b", "a___b", strings.Repeat("r", 101)}
	tags = []string{"", "v1", "_", strings.Repeat("t", 128), ".v", "a:b", "a@b", "a/b", " ", strings.Repeat("t", 129)}
	digests = []string{"", d, digestOf(""), d[:70], d + "0", "x", "@" + d, strings.ToUpper(d)}
	return repos, tags, digests
}

func TestWriteRef(t *testing.T) {
	repos, tags, digests := refPieces()
	for _, repo := range repos {
		for _, tag := range tags {
			for _, digest := range digests {
				r := impl.Ref{Repo: repo, Tag: tag, Digest: digest}
				want := ""
				if impl.RepoOk(repo) && (tag == "" || impl.TagOk(tag)) && (digest == "" || impl.DigestOk(digest)) {
					want = repo
					if tag != "" {
						want += ":" + tag
					}
					if digest != "" {
						want += "@" + digest
					}
				}
				got := impl.WriteRef(r)
				if got != want {
					t.Errorf("WriteRef(%+v) is %q, not %q", r, got, want)
				}
				if back, code := impl.ReadRef(got); got != "" && (back != r || code != 0) {
					t.Errorf("%q comes back as %+v, %d", got, back, code)
				}
			}
		}
	}
}

func TestNoOtherTextIsReadAsARef(t *testing.T) {
	d := digestOf("x")
	check := func(text string) {
		ref, code := impl.ReadRef(text)
		if code == 0 && impl.WriteRef(ref) != text {
			t.Errorf("%q is read as %+v", text, ref)
		}
		if code != 0 && ref != (impl.Ref{}) {
			t.Errorf("%q has the code %d, but %+v", text, code, ref)
		}
		// A right reference has one text, and each right text is one of these.
		repo, rest, at := strings.Cut(text, "@")
		name, tag, colon := strings.Cut(repo, ":")
		want := impl.RepoOk(name) && (!colon || impl.TagOk(tag)) && (!at || impl.DigestOk(rest))
		if (code == 0) != want {
			t.Errorf("ReadRef(%q) has the code %d", text, code)
		}
	}
	textsOver("a:@.A", 6, check)
	whole := "a/b:v1@" + d
	for at := range len(whole) + 1 {
		check(whole[:at])
		check(whole[at:])
		for _, b := range []string{":", "@", "/", " ", "a", "0", "\n", "\x00"} {
			check(whole[:at] + b + whole[at:])
			if at < len(whole) {
				check(whole[:at] + b + whole[at+1:])
			}
		}
	}
}

func TestManifestsComeBack(t *testing.T) {
	for _, n := range []int{1, 2, 10, 11, 39, 40} {
		for _, config := range []string{digestOf("config"), digestOf("layer 0")} {
			m := impl.Manifest{Config: config, Layers: layersOf(n)}
			s := impl.WriteManifest(m)
			if s != manifestText(config, m.Layers) {
				t.Errorf("a manifest of %d layers is written as %q", n, s)
			}
			back, code := impl.ReadManifest(s)
			if code != 0 || back.Config != config || !slices.Equal(back.Layers, m.Layers) {
				t.Errorf("a manifest of %d layers comes back as %+v, %d", n, back, code)
			}
			if impl.WriteManifest(back) != s {
				t.Errorf("what is read of %d layers is written otherwise", n)
			}
		}
	}
}

// wrongManifests are manifests that are not right.
func wrongManifests() map[string]impl.Manifest {
	d := digestOf("x")
	broken := layersOf(5)
	broken[4] = d + "0"
	first := layersOf(5)
	first[0] = ""
	return map[string]impl.Manifest{
		"the zero value":         {},
		"no layers":              {Config: d},
		"41 layers":              {Config: d, Layers: layersOf(41)},
		"1000 layers":            {Config: d, Layers: layersOf(1000)},
		"no config":              {Layers: layersOf(1)},
		"a config that is none":  {Config: d[:70], Layers: layersOf(1)},
		"a config with its line": {Config: d + "\nlayer " + d, Layers: layersOf(1)},
		"a last layer, wrong":    {Config: d, Layers: broken},
		"a first layer, empty":   {Config: d, Layers: first},
		"an upper case config":   {Config: strings.ToUpper(d), Layers: layersOf(1)},
	}
}

func TestWrongManifestsAreNeitherWrittenNorHaveBlobs(t *testing.T) {
	for what, m := range wrongManifests() {
		if s := impl.WriteManifest(m); s != "" {
			t.Errorf("%s: written as %q", what, s)
		}
		if b := impl.BlobsOf(m); len(b) != 0 {
			t.Errorf("%s: blobs %q", what, b)
		}
	}
}

func TestReadManifestFaults(t *testing.T) {
	c, d := digestOf("c"), digestOf("x")
	right := manifestText(c, []string{d})
	for _, r := range []struct {
		what, text string
		code       int64
	}{
		{"one layer", right, 0},
		{"40 layers", manifestText(c, layersOf(40)), 0},
		{"no layer", "config " + c + "\n", impl.MfLayers},
		{"41 layers", manifestText(c, layersOf(41)), impl.MfLayers},
		{"5000 layers", manifestText(c, layersOf(5000)), impl.MfLayers},
		{"an empty text", "", impl.MfLine},
		{"a line feed alone", "\n", impl.MfLine},
		{"an empty line ahead", "\n" + right, impl.MfLine},
		{"an empty line at the end", right + "\n", impl.MfLine},
		{"an empty line between", "config " + c + "\n\nlayer " + d + "\n", impl.MfLine},
		{"a config that is not ended", "config " + c, impl.MfLine},
		{"a last line that is not ended", right[:len(right)-1], impl.MfLine},
		{"a last line that is ended by CR", right[:len(right)-1] + "\r", impl.MfLine},
		{"a line ended by CR LF", right[:len(right)-1] + "\r\n", impl.MfLine},
		{"a layer ahead of the config", "layer " + d + "\nconfig " + c + "\n", impl.MfLine},
		{"a layer alone", "layer " + d + "\n", impl.MfLine},
		{"layers alone", "layer " + d + "\nlayer " + d + "\n", impl.MfLine},
		{"two configs", "config " + c + "\nconfig " + c + "\n", impl.MfLine},
		{"a config at the end", right + "config " + c + "\n", impl.MfLine},
		{"two blanks in the config", "config  " + c + "\nlayer " + d + "\n", impl.MfLine},
		{"two blanks in a layer", "config " + c + "\nlayer  " + d + "\n", impl.MfLine},
		{"no blank", "config" + c + "\nlayer " + d + "\n", impl.MfLine},
		{"no blank in a layer", "config " + c + "\nlayer" + d + "\n", impl.MfLine},
		{"a tab", "config\t" + c + "\nlayer " + d + "\n", impl.MfLine},
		{"a blank ahead", " " + right, impl.MfLine},
		{"a blank at the end of a line", "config " + c + " \nlayer " + d + "\n", impl.MfLine},
		{"a blank at the end", right + " ", impl.MfLine},
		{"a config that is no digest", "config x\nlayer " + d + "\n", impl.MfLine},
		{"a config with nothing", "config \nlayer " + d + "\n", impl.MfLine},
		{"a layer that is no digest", "config " + c + "\nlayer " + d[:70] + "\n", impl.MfLine},
		{"a layer that is too long", "config " + c + "\nlayer " + d + "0\n", impl.MfLine},
		{"a layer with nothing", right + "layer \n", impl.MfLine},
		{"upper case", "Config " + c + "\nlayer " + d + "\n", impl.MfLine},
		{"another word", right + "blob " + d + "\n", impl.MfLine},
		{"41 layers and a line that is none", manifestText(c, layersOf(41)) + "x\n", impl.MfLine},
		{"41 layers, the last one not ended", strings.TrimSuffix(manifestText(c, layersOf(41)), "\n"), impl.MfLine},
		{"no layer and a line that is none", "config " + c + "\nx\n", impl.MfLine},
		{"no layer and a config that is none", "config x\n", impl.MfLine},
	} {
		m, code := impl.ReadManifest(r.text)
		if code != r.code || code != 0 && (m.Config != "" || len(m.Layers) != 0) {
			t.Errorf("%s: %d, %+v, not %d", r.what, code, m, r.code)
		}
		if code == 0 && impl.WriteManifest(m) != r.text {
			t.Errorf("%s: what is read is written otherwise", r.what)
		}
	}
}

func TestNoOtherTextIsReadAsAManifest(t *testing.T) {
	whole := manifestText(digestOf("c"), []string{digestOf("x"), digestOf("y")})
	check := func(text string) {
		m, code := impl.ReadManifest(text)
		if code == 0 && impl.WriteManifest(m) != text {
			t.Errorf("%q is read as %+v", text, m)
		}
		if code != 0 && (m.Config != "" || len(m.Layers) != 0) {
			t.Errorf("%q has the code %d, but %+v", text, code, m)
		}
	}
	for at := range len(whole) + 1 {
		check(whole[:at])
		check(whole[at:])
		for c := range 256 {
			b := string([]byte{byte(c)})
			check(whole[:at] + b + whole[at:])
			if at < len(whole) {
				check(whole[:at] + b + whole[at+1:])
			}
		}
	}
}

func TestBlobsOf(t *testing.T) {
	a, b, c := "sha256:"+strings.Repeat("0", 64), digestOf("b"), "sha256:"+strings.Repeat("f", 64)
	for _, r := range []struct {
		config string
		layers []string
		want   []string
	}{
		{a, []string{b}, []string{a, b}},
		{b, []string{a}, []string{a, b}},
		{a, []string{a}, []string{a}},
		{a, []string{a, a, a}, []string{a}},
		{b, []string{c, a}, []string{a, b, c}},
		{c, []string{b, a}, []string{a, b, c}},
		{c, []string{b, a, b, c, a}, []string{a, b, c}},
		{a, []string{c, b, c}, []string{a, b, c}},
	} {
		if got := impl.BlobsOf(impl.Manifest{Config: r.config, Layers: r.layers}); !slices.Equal(got, r.want) {
			t.Errorf("BlobsOf(%s, %q) is %q", r.config, r.layers, got)
		}
	}
	for _, n := range []int{1, 10, 11, 40} {
		m := impl.Manifest{Config: digestOf("config"), Layers: layersOf(n)}
		want := slices.Compact(slices.Sorted(slices.Values(append(layersOf(n), m.Config))))
		if got := impl.BlobsOf(m); !slices.Equal(got, want) {
			t.Errorf("the blobs of %d layers are %q", n, got)
		}
	}
}

func TestNameAnswersAreTheirOwn(t *testing.T) {
	for _, n := range []int{1, 2, 3, 20, 40, 41} {
		layers := roomy(layersOf(n), "spare")
		slices.Reverse(layers)
		m := impl.Manifest{Config: digestOf("config"), Layers: layers}
		argument := []watch{watchOver("Layers", layers)}
		text, blobs := impl.WriteManifest(m), impl.BlobsOf(m)
		checkWatches(t, "writing", argument)
		want := slices.Clone(blobs)
		scribble(blobs, "changed")
		checkWatches(t, "scribbling on the blobs", argument)
		if again := impl.BlobsOf(m); !slices.Equal(again, want) {
			t.Errorf("%d layers: the same argument, other blobs %q", n, again)
		}
		if impl.WriteManifest(m) != text {
			t.Errorf("%d layers: the same argument, another text", n)
		}
		first, code := impl.ReadManifest(text)
		other, _ := impl.ReadManifest(text)
		wanted := slices.Clone(first.Layers)
		scribble(first.Layers, "changed")
		later, again := impl.ReadManifest(text)
		if !slices.Equal(other.Layers, wanted) || !slices.Equal(later.Layers, wanted) || code != again {
			t.Errorf("%d layers: an answer that was changed changed another", n)
		}
	}
}
