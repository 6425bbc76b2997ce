package tests

import (
	"fmt"
	"math"
	"math/rand/v2"
	"slices"
	"strings"
	"testing"

	"loop.example/g00141/impl"
)

// The slow way of chapter 15: written from the document's words, beside the program.

func slowSiteOk(x impl.Site) bool {
	return x.Node >= 1 && x.Node <= 50 && impl.StoreOk(x.Store) && slowStateOk(x.State)
}

func slowSitesOk(sites []impl.Site) bool {
	for i, x := range sites {
		if !slowSiteOk(x) || i > 0 && x.Node <= sites[i-1].Node {
			return false
		}
	}
	return len(sites) >= 1 && len(sites) <= 50
}

func stores(x impl.Site, digest string) bool {
	return slices.ContainsFunc(x.Store.Blobs, func(b impl.Blob) bool { return b.Digest == digest })
}

func condemns(x impl.Site, digest string) bool {
	return slices.Contains(x.State.Condemned, digest)
}

func slowSweep(x impl.Site) (impl.Site, []string) {
	x = copySite(x)
	var left []impl.Blob
	var gone []string
	for _, b := range x.Store.Blobs {
		if condemns(x, b.Digest) {
			gone = append(gone, b.Digest)
		} else {
			left = append(left, b)
		}
	}
	x.Store.Blobs = left
	slices.Sort(gone)
	return x, gone
}

func slowDone(sites []impl.Site) []string {
	var list []string
	for _, d := range sites[0].State.Condemned {
		all := true
		for _, x := range sites {
			all = all && condemns(x, d) && !stores(x, d)
		}
		if all {
			list = append(list, d)
		}
	}
	slices.Sort(list)
	return list
}

// slowCycle does each command to each site by itself.
func slowCycle(sites []impl.Site) ([]impl.Site, []impl.Cmd, bool) {
	if !slowSitesOk(sites) {
		return nil, nil, false
	}
	var next []impl.Site
	cmds := []impl.Cmd{{Op: impl.CmMark}, {Op: impl.CmCondemn}}
	for _, x := range sites {
		if rawState(x.State) != rawState(sites[0].State) {
			return nil, nil, false
		}
		for _, c := range cmds {
			state, code := slowApply(x.State, c)
			if code != impl.RgOk {
				return nil, nil, false
			}
			x.State = state
		}
		x, _ = slowSweep(x)
		next = append(next, x)
	}
	for _, d := range slowDone(next) {
		c := impl.Cmd{Op: impl.CmSwept, Digest: d}
		cmds = append(cmds, c)
		for i := range next {
			next[i].State, _ = slowApply(next[i].State, c)
		}
	}
	return next, cmds, true
}

func slowUnsafe(x impl.Site, later impl.State) []string {
	var list []string
	for _, d := range slowNeeded(later) {
		if slowSiteOk(x) && condemns(x, d) {
			list = append(list, d)
		}
	}
	return list
}

func copySite(x impl.Site) impl.Site {
	x.Store, x.State = copyStore(x.Store), copyState(x.State)
	return x
}

func copySites(sites []impl.Site) []impl.Site {
	var list []impl.Site
	for _, x := range sites {
		list = append(list, copySite(x))
	}
	return list
}

func sameSite(a, b impl.Site) bool {
	return a.Node == b.Node && sameStore(a.Store, b.Store) && sameState(a.State, b.State)
}

func sameSites(a, b []impl.Site) bool {
	return slices.EqualFunc(a, b, sameSite)
}

// siteWith has the blobs with these letters, room for some more, and a state.
func siteWith(node int64, letters string, state impl.State) impl.Site {
	return impl.Site{Node: node, Store: storeWith(letters, 9), State: copyState(state)}
}

// sitesWith tells what each of the nodes 1, 2, .. has in its store, by letters, with a / between each two; all are in one state.
func sitesWith(text string, state impl.State) []impl.Site {
	var sites []impl.Site
	for i, letters := range strings.Split(text, "/") {
		sites = append(sites, siteWith(int64(i+1), letters, state))
	}
	return sites
}

// wrongSites are ones that are not right, each for one cause.
func wrongSites() map[string]impl.Site {
	sites := map[string]impl.Site{"nothing": {}}
	for node, right := range nodeNumbers {
		if !right {
			sites[fmt.Sprint("Node ", node)] = siteWith(node, "axy", aState())
		}
	}
	for what, s := range wrongStores() {
		sites["Store: "+what] = impl.Site{Node: 2, Store: s, State: aState()}
	}
	for what, s := range wrongStates() {
		sites["State: "+what] = impl.Site{Node: 2, Store: storeWith("axy", 9), State: s}
	}
	return sites
}

func TestSweepingSiteOk(t *testing.T) {
	for node, right := range nodeNumbers {
		if got := impl.SiteOk(siteWith(node, "axy", aState())); got != right {
			t.Errorf("Node %d: %v", node, got)
		}
	}
	for what, state := range rightStates() {
		for _, letters := range []string{"", "abc", "xyz"} {
			if !impl.SiteOk(siteWith(50, letters, state)) {
				t.Errorf("%s with %q: not right", what, letters)
			}
		}
	}
	full := impl.Store{Quota: impl.MaxBytes, Blobs: manyBlobs(60), Uploads: manyUploads(10, "u"), Next: impl.MaxNumber}
	if !impl.SiteOk(impl.Site{Node: 1, Store: full}) {
		t.Error("a full store: not right")
	}
	for what, x := range wrongSites() {
		if impl.SiteOk(x) {
			t.Errorf("%s: right", what)
		}
	}
	for _, x := range []impl.Site{{Node: 1, State: aState()}, {Node: 1}, {Store: storeWith("", 0), State: aState()}} {
		if impl.SiteOk(x) {
			t.Errorf("%+v: right", x)
		}
	}
}

// checkSweep holds Sweep and CanSweep against the slow way, and against the promise.
func checkSweep(t *testing.T, what string, x impl.Site) []string {
	t.Helper()
	got, gone, ok := impl.Sweep(x)
	want, wantGone := slowSweep(x)
	if !ok || !sameSite(got, want) || !slices.Equal(gone, wantGone) {
		t.Fatalf("%s: %+v, %q, %v; not %+v, %q", what, got, gone, ok, want, wantGone)
	}
	if !impl.SiteOk(got) || !sameState(got.State, x.State) || len(got.Store.Blobs)+len(gone) != len(x.Store.Blobs) {
		t.Errorf("%s: %+v", what, got)
	}
	needed := impl.Needed(x.State)
	for _, d := range gone {
		if !condemns(x, d) || !stores(x, d) || slices.Contains(needed, d) || !impl.CanSweep(x, d) {
			t.Errorf("%s: %s is swept", what, d)
		}
	}
	if again, more, ok := impl.Sweep(got); !ok || len(more) != 0 || !sameSite(again, got) {
		t.Errorf("%s: swept again %q, %v", what, more, ok)
	}
	return gone
}

func TestSweepingByHand(t *testing.T) {
	for _, r := range []struct {
		what, condemned, have, gone, left string
	}{
		{"nothing at all", "", "", "", ""},
		{"nothing is condemned", "", "axyz", "", "axyz"},
		{"nothing is there", "xy", "", "", ""},
		{"it has none of them", "xy", "az", "", "az"},
		{"it has one of one", "x", "x", "x", ""},
		{"it has all", "xyz", "xyz", "xzy", ""},
		{"it has all, and others", "xyz", "abcxyz", "xzy", "abc"},
		{"it has some", "xz", "axy", "x", "ay"},
		{"it has one of many", "bcdxyz", "ax", "x", "a"},
		{"the first digest", "x", "xzy", "x", "zy"},
		{"the one between", "z", "xzy", "z", "xy"},
		{"the last digest", "y", "xzy", "y", "xz"},
		{"two around one", "xy", "xzy", "xy", "z"},
	} {
		x := siteWith(3, r.have, impl.State{Condemned: lettersOf(r.condemned)})
		if gone := checkSweep(t, r.what, x); !slices.Equal(gone, lettersOf(r.gone)) {
			t.Errorf("%s: %q is gone", r.what, gone)
		}
		got, _, _ := impl.Sweep(x)
		if digests := impl.DigestsOf(got.Store); !slices.Equal(digests, lettersOf(r.left)) {
			t.Errorf("%s: %q is left", r.what, digests)
		}
	}
}

func TestSweepingOfWholeSites(t *testing.T) {
	x := impl.Site{Node: 50, Store: impl.Store{Quota: 300, Blobs: manyBlobs(60), Uploads: manyUploads(10, "00"), Next: 77}, State: aState()}
	if gone := checkSweep(t, "none of 60", x); len(gone) != 0 {
		t.Errorf("%q is gone", gone)
	}
	for _, n := range []int{1, 30, 59, 60} {
		some := copySite(x)
		some.State.Condemned = nil
		for _, b := range some.Store.Blobs[:n] {
			some.State.Condemned = append(some.State.Condemned, b.Digest)
		}
		if gone := checkSweep(t, fmt.Sprint(n, " of 60"), some); !slices.Equal(gone, some.State.Condemned) {
			t.Errorf("%d of 60: %q is gone", n, gone)
		}
		got, _, _ := impl.Sweep(some)
		if got.Node != 50 || got.Store.Quota != 300 || got.Store.Next != 77 || !slices.Equal(got.Store.Uploads, x.Store.Uploads) || !slices.Equal(got.Store.Blobs, x.Store.Blobs[n:]) {
			t.Errorf("%d of 60: %+v", n, got)
		}
	}
	many := copySite(x)
	many.State = stateOf(0, 0, 0, 140, 0)
	for _, b := range x.Store.Blobs {
		many.State.Condemned = append(many.State.Condemned, b.Digest)
	}
	slices.Sort(many.State.Condemned)
	if gone := checkSweep(t, "60 of 200", many); len(gone) != 60 {
		t.Errorf("%d are gone", len(gone))
	}
	// An upload whose bytes are those of a condemned blob is none yet.
	upload := impl.Site{Node: 1, Store: impl.Store{Quota: 5, Uploads: manyUploads(2, "x"), Next: 3}, State: aState()}
	if gone := checkSweep(t, "an upload", upload); len(gone) != 0 {
		t.Errorf("%q is gone", gone)
	}
	for what, state := range rightStates() {
		checkSweep(t, what, siteWith(7, "abcdefgxyz", state))
	}
}

func TestSweepingOfWrongSites(t *testing.T) {
	for what, x := range wrongSites() {
		if got, gone, ok := impl.Sweep(x); ok || len(gone) != 0 || !sameSite(got, impl.Site{}) {
			t.Errorf("%s: %+v, %q, %v", what, got, gone, ok)
		}
		for _, d := range []string{digestOf("x"), digestOf("y"), digestOf("a"), ""} {
			if impl.CanSweep(x, d) {
				t.Errorf("%s: %s can be swept", what, d)
			}
		}
		if list := impl.Unsafe(x, needing("xya")); len(list) != 0 {
			t.Errorf("%s: %q is unsafe", what, list)
		}
	}
}

func TestSweepingCanSweep(t *testing.T) {
	for _, letters := range []string{"", "x", "y", "a", "xya", "abcdefgxyz"} {
		x := siteWith(1, letters, aState())
		for _, c := range "abcdefgxyz" {
			if got := impl.CanSweep(x, digestOf(string(c))); got != (c == 'x' || c == 'y') {
				t.Errorf("%c of %q: %v", c, letters, got)
			}
		}
		for what, none := range noDigests(digestOf("x")) {
			if impl.CanSweep(x, none) {
				t.Errorf("%q: %s can be swept", letters, what)
			}
		}
		for _, none := range []string{"x", "sha256:" + strings.ToUpper(digestOf("x")[7:]), digestOf("x") + digestOf("y"), strings.Repeat("x", 100000)} {
			if impl.CanSweep(x, none) {
				t.Errorf("%q: %.80q can be swept", letters, none)
			}
		}
	}
	// A digest of nothing but 0 is what no text at all would be as bytes.
	if impl.CanSweep(siteWith(1, "", impl.State{Condemned: []string{digitsOf("0")}}), "") || !impl.CanSweep(siteWith(1, "", impl.State{Condemned: []string{digitsOf("0")}}), digitsOf("0")) {
		t.Error("the digest of noughts")
	}
	full := siteWith(1, "", impl.State{Condemned: manyDigests(200)})
	for i, d := range manyDigests(210) {
		if got := impl.CanSweep(full, d); got != slices.Contains(full.State.Condemned, d) {
			t.Errorf("%d of 200: %v", i, got)
		}
	}
}

// sitesBy tells of the nodes 1, 2, .. what each has in its store and, behind a colon, what it has among Condemned.
func sitesBy(text string) []impl.Site {
	var sites []impl.Site
	for i, part := range strings.Split(text, "/") {
		have, condemned, _ := strings.Cut(part, ":")
		sites = append(sites, siteWith(int64(i+1), have, impl.State{Condemned: lettersOf(condemned)}))
	}
	return sites
}

func TestSweepingDoneByHand(t *testing.T) {
	for _, r := range []struct{ what, sites, want string }{
		{"one, nothing is condemned", ":", ""},
		{"one, nothing is condemned, some are there", "xy:", ""},
		{"one without", ":xyz", "xzy"},
		{"one has others", "ab:xy", "xy"},
		{"one still has it", "x:x", ""},
		{"one still has one", "x:xy", "y"},
		{"one still has all", "xyz:xyz", ""},
		{"two without", ":xy/:xy", "xy"},
		{"the first has it not among Condemned", ":x/:xy", "x"},
		{"the last has it not among Condemned", ":xy/:y", "y"},
		{"the first has none among Condemned", ":/:xy", ""},
		{"the last has none among Condemned", ":xy/:", ""},
		{"nothing in common", ":x/:y", ""},
		{"the first still has it", "x:xy/:xy", "y"},
		{"the last still has it", ":xy/y:xy", "x"},
		{"each still has one", "x:xyz/y:xyz", "z"},
		{"the last has it, and not among Condemned", ":x/x:", ""},
		{"the first has it, and not among Condemned", "x:/:x", ""},
		{"three without", ":xyz/:xyz/:xyz", "xzy"},
		{"three, the one between has it not among Condemned", ":xyz/:xy/:xyz", "xy"},
		{"three, the one between still has it", ":xyz/z:xyz/:xyz", "xy"},
		{"three, one each", "x:xyz/y:xyz/z:xyz", ""},
		{"three, other ones each", ":xy/:yz/:xz", ""},
		{"four", "a:wxyz/b:wxyz/c:xyz/dz:wxyz", "xy"},
	} {
		sites := sitesBy(r.sites)
		got, ok := impl.Done(sites)
		if !ok || !slices.Equal(got, lettersOf(r.want)) || !slices.Equal(got, slowDone(sites)) {
			t.Errorf("%s: %q, %v", r.what, got, ok)
		}
	}
	full := []impl.Site{siteWith(1, "", impl.State{Condemned: manyDigests(200)}), siteWith(2, "x", impl.State{Condemned: manyDigests(200)}), siteWith(3, "", stateOf(0, 0, 0, 200, 0))}
	if got, ok := impl.Done(full[:2]); !ok || !slices.Equal(got, manyDigests(200)) {
		t.Errorf("200 of two: %d, %v", len(got), ok)
	}
	if got, ok := impl.Done(full); !ok || len(got) != 0 {
		t.Errorf("200 of three: %d, %v", len(got), ok)
	}
}

// checkSites asks Done and Cycle, and wants both refused, or not.
func checkSites(t *testing.T, what string, sites []impl.Site, right bool) {
	t.Helper()
	if list, ok := impl.Done(sites); ok != right || !ok && len(list) != 0 {
		t.Errorf("%s: Done %q, %v", what, list, ok)
	}
	if next, cmds, ok := impl.Cycle(sites); ok != right || !ok && len(next)+len(cmds) != 0 {
		t.Errorf("%s: Cycle %+v, %+v, %v", what, next, cmds, ok)
	}
}

func TestSweepingSitesThatAreRightOrNot(t *testing.T) {
	atNodes := func(nodes []int64) []impl.Site {
		var sites []impl.Site
		for i, node := range nodes {
			sites = append(sites, siteWith(node, "axy"[:i%4], aState()))
		}
		return sites
	}
	for what, nodes := range rightNodeLists() {
		checkSites(t, what, atNodes(nodes), len(nodes) > 0)
	}
	checkSites(t, "no list", nil, false)
	checkSites(t, "an empty list", []impl.Site{}, false)
	for what, nodes := range wrongNodeLists() {
		checkSites(t, what, atNodes(nodes), false)
	}
	for what, x := range wrongSites() {
		checkSites(t, what+" alone", []impl.Site{x}, false)
		for at := range 3 {
			sites := atNodes([]int64{1, 2, 3})
			sites[at] = x
			checkSites(t, fmt.Sprint(what, " at ", at), sites, false)
		}
	}
	for at := range 3 { // what is wrong is no Node
		sites := atNodes([]int64{1, 2, 3})
		sites[at].Store.Quota = -1
		checkSites(t, fmt.Sprint("a Quota at ", at), sites, false)
		sites = atNodes([]int64{1, 2, 3})
		sites[at].State.Epoch = -1
		checkSites(t, fmt.Sprint("an Epoch at ", at), sites, false)
	}
	all := atNodes(countUp(1, 50))
	for _, at := range []int{0, 25, 49} {
		sites := copySites(all)
		sites[at].Store.Next = 0
		checkSites(t, fmt.Sprint("of 50 the one at ", at), sites, false)
	}
}

// checkCycle holds Cycle against the slow way, and against the promise.
func checkCycle(t *testing.T, what string, sites []impl.Site) ([]impl.Site, []impl.Cmd, bool) {
	t.Helper()
	got, cmds, ok := impl.Cycle(sites)
	want, wantCmds, wantOk := slowCycle(sites)
	if ok != wantOk || !sameSites(got, want) || !slices.Equal(cmds, wantCmds) {
		t.Fatalf("%s: %+v, %+v, %v; not %+v, %+v, %v", what, got, cmds, ok, want, wantCmds, wantOk)
	}
	if !ok {
		return got, cmds, ok
	}
	marked := first(impl.Apply(sites[0].State, cmds[0]))
	condemned := first(impl.Apply(marked, cmds[1]))
	for i, x := range got {
		if !impl.SiteOk(x) || x.Node != sites[i].Node || !sameState(x.State, got[0].State) || len(x.State.Condemned) != 0 {
			t.Errorf("%s: the site %d is %+v", what, i, x)
		}
		if !slices.Equal(impl.Needed(x.State), impl.Needed(marked)) {
			t.Errorf("%s: other blobs are needed at %d", what, i)
		}
		for _, b := range sites[i].Store.Blobs {
			if stores(x, b.Digest) == slices.Contains(condemned.Condemned, b.Digest) {
				t.Errorf("%s: at %d is the blob %s still: %v", what, i, b.Digest, stores(x, b.Digest))
			}
			if !stores(x, b.Digest) && slices.Contains(impl.Needed(x.State), b.Digest) {
				t.Errorf("%s: at %d the blob %s is swept, and needed", what, i, b.Digest)
			}
		}
	}
	return got, cmds, ok
}

// cmdsOfARound are the commands of a round that says so many blobs, by their letters, are swept.
func cmdsOfARound(letters string) []impl.Cmd {
	cmds := []impl.Cmd{{Op: impl.CmMark}, {Op: impl.CmCondemn}}
	for _, d := range lettersOf(letters) {
		cmds = append(cmds, impl.Cmd{Op: impl.CmSwept, Digest: d})
	}
	return cmds
}

// Behind a mark of aState the third image is gone, the blobs f and g are kept no longer, and x and y were condemned ahead of it.
func TestSweepingCycleByHand(t *testing.T) {
	state := aState()
	then := sortedState(altered(state, atEpoch(8), lessManifests(imageThree), lessBlobs("f", "g"), func(s *impl.State) { s.Condemned = nil }))
	for _, r := range []struct{ what, have, left string }{
		{"one with nothing", "", ""},
		{"one with all", "abcdefgxyz", "abcdez"},
		{"one with what is condemned", "fgxy", ""},
		{"one with what a manifest names", "abc", "abc"},
		{"one with what is pinned", "de", "de"},
		{"one with what nobody knows", "zw", "zw"},
		{"three, nobody has it", "a/b/c", "a/b/c"},
		{"three, the first has it", "ax/b/c", "a/b/c"},
		{"three, the last has it", "a/b/cy", "a/b/c"},
		{"three, one each", "fx/gy/ga", "//a"},
		{"three with all", "abcdefgxyz/abcdefgxyz/abcdefgxyz", "abcdez/abcdez/abcdez"},
		{"five", "x/xy/xyz/fxyz/fgxyza", "//z/z/za"},
	} {
		got, cmds, ok := checkCycle(t, r.what, sitesWith(r.have, state))
		if !ok || !slices.Equal(cmds, cmdsOfARound("fgxy")) {
			t.Fatalf("%s: %+v, %v", r.what, cmds, ok)
		}
		for i, letters := range strings.Split(r.left, "/") {
			if digests := impl.DigestsOf(got[i].Store); !slices.Equal(digests, lettersOf(letters)) || !sameState(got[i].State, then) {
				t.Errorf("%s: %q is left at %d, %+v", r.what, digests, i, got[i].State)
			}
		}
	}
}

func TestSweepingCycleOfOtherStates(t *testing.T) {
	for _, r := range []struct {
		what  string
		state impl.State
		swept string
		left  string
	}{
		{"nothing", impl.State{}, "", "abcdefgxyz"},
		{"the epoch 0", altered(aState(), atEpoch(0)), "xy", "abcdefgz"},
		{"a blob kept one epoch longer", altered(aState(), until("g", 8)), "fxy", "abcdegz"},
		{"a manifest kept one epoch longer", altered(aState(), heldUntil(imageThree, 8), until("d", 0)), "fgxy", "abcdez"},
		{"a manifest that goes, and its blob", altered(aState(), until("d", 7)), "dfgxy", "abcez"},
		{"a manifest that goes, and its blob is kept", altered(aState(), until("d", 8)), "fgxy", "abcdez"},
		{"nothing is condemned", altered(aState(), func(s *impl.State) { s.Condemned = nil }), "fg", "abcdexyz"},
		{"no tags", altered(aState(), dropTags), "cfgxy", "abdez"},
		{"no tags, and all is old", altered(aState(), dropTags, atEpoch(40)), "abcdefgxy", "z"},
		{"all is old", altered(aState(), atEpoch(40)), "defgxy", "abcz"},
		{"the last epoch but one", altered(aState(), atEpoch(mostEpoch-1)), "defgxy", "abcz"},
		{"no manifests", altered(aState(), dropManifests), "bcfgxy", "adez"},
	} {
		got, cmds, ok := checkCycle(t, r.what, sitesWith("abcdefgxyz//xyz", r.state))
		if !ok || !slices.Equal(cmds, cmdsOfARound(r.swept)) || !slices.Equal(impl.DigestsOf(got[0].Store), lettersOf(r.left)) || got[2].State.Epoch != r.state.Epoch+1 {
			t.Errorf("%s: %+v, %+v, %v", r.what, got, cmds, ok)
		}
	}
}

func TestSweepingCycleWhereACommandHasACode(t *testing.T) {
	for _, r := range []struct {
		what  string
		state impl.State
		right bool
		swept int
	}{
		{"the last epoch", altered(aState(), atEpoch(mostEpoch)), false, 0},
		{"the last epoch, and nothing else", impl.State{Epoch: mostEpoch}, false, 0},
		{"the last epoch but one, and nothing else", impl.State{Epoch: mostEpoch - 1}, true, 0},
		{"200 condemned", stateOf(1, 1, 1, 200, 0), true, 200},
		{"200 condemned and one more", stateOf(1, 1, 2, 200, 0), false, 0},
		{"199 condemned and one more", stateOf(1, 1, 2, 199, 0), true, 200},
		{"199 condemned and two more", stateOf(1, 1, 3, 199, 0), false, 0},
		{"200 blobs", stateOf(0, 0, 200, 0, 0), true, 200},
		{"200 blobs and one that is condemned", stateOf(0, 0, 200, 1, 0), false, 0},
		{"199 blobs and one that is condemned", stateOf(0, 0, 199, 1, 0), true, 200},
		{"a blob that falls due by the mark, and 200", altered(stateOf(0, 0, 1, 200, 0), func(s *impl.State) { s.Blobs[0].Until = 4 }), false, 0},
		{"a blob that does not, and 200", altered(stateOf(0, 0, 1, 200, 0), func(s *impl.State) { s.Blobs[0].Until = 5 }), true, 200},
		{"a full one", stateOf(40, 100, 200, 40, 20), true, 200},
		{"a full one and one more", stateOf(40, 100, 200, 41, 20), false, 0},
	} {
		for _, have := range []string{"", "/x", "x//xyz"} {
			next, cmds, ok := checkCycle(t, r.what, sitesWith(have, r.state))
			if ok != r.right || ok && len(cmds) != r.swept+2 || !ok && len(next)+len(cmds) != 0 {
				t.Errorf("%s: %d sites, %d commands, %v", r.what, len(next), len(cmds), ok)
			}
		}
	}
}

func TestSweepingCycleOfStatesThatDiffer(t *testing.T) {
	have := "abx/fg/xy"
	for what, change := range map[string]func(*impl.State){
		"Epoch":                 func(s *impl.State) { s.Epoch++ },
		"Until of a manifest":   func(s *impl.State) { s.Manifests[1].Until++ },
		"a manifest less":       func(s *impl.State) { *s = altered(*s, lessManifests(imageThree)) },
		"a tag's manifest":      func(s *impl.State) { s.Tags[0].Digest = digestOf(imageThree) },
		"a tag's name":          func(s *impl.State) { s.Tags[2].Tag = "v3" },
		"a tag less":            func(s *impl.State) { s.Tags = s.Tags[:2] },
		"Until of a blob":       func(s *impl.State) { s.Blobs[2].Until++ },
		"a blob less":           func(s *impl.State) { *s = altered(*s, lessBlobs("e")) },
		"one more blob":         func(s *impl.State) { *s = sortedState(altered(*s, morePins(pin("new", 9)))) },
		"a condemned one less":  func(s *impl.State) { s.Condemned = s.Condemned[:1] },
		"another one condemned": func(s *impl.State) { s.Condemned = lettersOf("xz") },
		"Serial of a session":   func(s *impl.State) { s.Sessions[0].Serial++ },
		"Code of a session":     func(s *impl.State) { s.Sessions[1].Code++ },
		"a session less":        func(s *impl.State) { s.Sessions = s.Sessions[:2] },
		"nothing in it":         func(s *impl.State) { *s = impl.State{} },
	} {
		for at := range 3 {
			sites := sitesWith(have, aState())
			change(&sites[at].State)
			if !impl.SiteOk(sites[at]) {
				t.Fatalf("%s: not right", what)
			}
			next, cmds, ok := checkCycle(t, what, sites)
			if ok || len(next)+len(cmds) != 0 {
				t.Errorf("%s at %d: %+v, %+v, %v", what, at, next, cmds, ok)
			}
			if _, ok := impl.Done(sites); !ok {
				t.Errorf("%s at %d: Done is refused", what, at)
			}
		}
		sites := sitesWith(have, aState())
		for i := range sites {
			change(&sites[i].State)
		}
		if _, _, ok := checkCycle(t, what+" everywhere", sites); !ok {
			t.Errorf("%s everywhere: refused", what)
		}
	}
	sites := sitesWith("x/y/z", impl.State{Epoch: 3})
	sites[1].State = rightStates()["empty lists"]
	if _, _, ok := checkCycle(t, "empty lists", sites); !ok {
		t.Error("an empty list is another one than nil")
	}
}

// A second round finds nothing to do, where nothing else falls due.
func TestSweepingCycleAgainAndAgain(t *testing.T) {
	sites := sitesWith("abcdefgxyz/xy/fga", aState())
	for round, swept := range []string{"fgxy", "", "e", "", "", "d", "", ""} {
		next, cmds, ok := checkCycle(t, fmt.Sprint("round ", round), sites)
		if !ok || !slices.Equal(cmds, cmdsOfARound(swept)) {
			t.Fatalf("round %d: %+v, %v", round, cmds, ok)
		}
		sites = next
	}
	if digests := impl.DigestsOf(sites[0].Store); !slices.Equal(digests, lettersOf("abcz")) {
		t.Errorf("%q is left", digests)
	}
}

func TestSweepingOfTheGreatestSites(t *testing.T) {
	state := altered(rightStates()["a great manifest"], func(s *impl.State) {
		for i := range s.Manifests { // an image more each epoch that is kept no longer
			s.Manifests[i].Until = int64(i)
		}
		s.Condemned = manyDigests(150)
	})
	var sites []impl.Site
	for node := int64(1); node <= 50; node++ {
		store := impl.Store{Quota: impl.MaxBytes, Next: 1}
		for i := range 60 {
			data := fmt.Sprint("blob ", i)
			if i == 59 {
				data = strings.Repeat("x", 150000)
			}
			store.Blobs = append(store.Blobs, blobsOf(data)...)
		}
		slices.SortFunc(store.Blobs, func(a, b impl.Blob) int { return strings.Compare(a.Digest, b.Digest) })
		sites = append(sites, impl.Site{Node: node, Store: store, State: state})
	}
	if list, ok := impl.Done(sites); !ok || !slices.Equal(list, manyDigests(150)) {
		t.Errorf("Done %d, %v", len(list), ok)
	}
	for epoch := range 3 {
		next, cmds, ok := impl.Cycle(sites)
		if !ok || len(next) != 50 || !sameState(next[0].State, next[49].State) {
			t.Fatalf("the epoch %d: %d commands, %v", epoch, len(cmds), ok)
		}
		sites = next
	}
	alone, cmds, ok := slowCycle(sites[49:])
	if next, all, ok2 := impl.Cycle(sites); !ok || !ok2 || !slices.Equal(cmds, all) || !sameSite(next[49], alone[0]) {
		t.Errorf("%d commands, %d alone", len(all), len(cmds))
	}
}

// needing is a state with a manifest that names the blobs with these letters.
func needing(letters string) impl.State {
	s := impl.State{Epoch: 5}
	if letters == "" {
		return s
	}
	var datas []string
	for _, c := range letters {
		datas = append(datas, string(c))
		s.Blobs = append(s.Blobs, pin(string(c), 7))
	}
	s.Manifests = []impl.Held{held(image(append(datas, datas[0])...), 7)}
	return sortedState(s)
}

func TestSweepingUnsafe(t *testing.T) {
	for _, r := range []struct{ what, condemned, needed, want string }{
		{"nothing", "", "", ""},
		{"nothing is condemned", "", "xyz", ""},
		{"nothing is needed", "xyz", "", ""},
		{"others are needed", "xy", "abz", ""},
		{"one is needed", "xy", "x", "x"},
		{"another one is needed", "xy", "y", "y"},
		{"one and others", "xy", "abyz", "y"},
		{"all are needed", "xyz", "xyz", "xzy"},
		{"all are needed, in another order", "xyz", "zyx", "xzy"},
		{"more are needed", "xyz", "wxyzab", "xzy"},
	} {
		for _, have := range []string{"", "x", "xyz"} {
			x := siteWith(9, have, impl.State{Epoch: 3, Condemned: lettersOf(r.condemned)})
			got := impl.Unsafe(x, needing(r.needed))
			if !slices.Equal(got, lettersOf(r.want)) || !slices.Equal(got, slowUnsafe(x, needing(r.needed))) {
				t.Errorf("%s: %q", r.what, got)
			}
		}
	}
	x := siteWith(9, "xy", aState())
	for what, later := range map[string]impl.State{
		"its own":    aState(),
		"pinned":     {Blobs: []impl.Pin{pin("x", 9)}},
		"condemned":  {Condemned: lettersOf("xy")},
		"an earlier": {},
	} {
		if got := impl.Unsafe(x, later); len(got) != 0 {
			t.Errorf("%s: %q", what, got)
		}
	}
	for what, change := range map[string]func(*impl.State){
		"Epoch":         func(s *impl.State) { s.Epoch = -1 },
		"no blobs":      func(s *impl.State) { s.Blobs = nil },
		"a blob less":   func(s *impl.State) { s.Blobs = s.Blobs[:1] },
		"turned round":  func(s *impl.State) { slices.Reverse(s.Blobs) },
		"its digest":    func(s *impl.State) { s.Manifests[0].Digest = digestOf("x") },
		"201 condemned": func(s *impl.State) { s.Condemned = manyDigests(201) },
	} {
		if got := impl.Unsafe(x, altered(needing("xy"), change)); len(got) != 0 {
			t.Errorf("later is not right, %s: %q", what, got)
		}
	}
	for what, later := range wrongStates() {
		if got := impl.Unsafe(x, later); len(got) != 0 {
			t.Errorf("later is not right, %s: %q", what, got)
		}
	}
}

func TestSweepingUnsafeOfWholeSets(t *testing.T) {
	later := rightStates()["a great manifest"]
	var all []string
	for _, p := range later.Blobs {
		all = append(all, p.Digest)
	}
	x := siteWith(1, "", impl.State{Condemned: all})
	if got := impl.Unsafe(x, later); len(got) != 200 || !slices.Equal(got, all) {
		t.Errorf("%d of 200", len(got))
	}
	x.State.Condemned = manyDigests(200)
	if got := impl.Unsafe(x, later); !slices.Equal(got, slowUnsafe(x, later)) {
		t.Errorf("%q", got)
	}
}

// randomStore has some of the blobs that random commands are about.
func randomStore(r *rand.Rand) impl.Store {
	var datas []string
	chance := 1 + r.IntN(3)
	for i := range 14 {
		if r.IntN(chance) == 0 {
			datas = append(datas, fmt.Sprint("b", i))
		}
	}
	return impl.Store{Quota: 100, Blobs: blobsOf(datas...), Uploads: manyUploads(r.IntN(3), "b1"), Next: 4}
}

// A history is a state behind each command of a log, from the first one on.
func randomHistory(r *rand.Rand, n int) []impl.State {
	states := []impl.State{{Epoch: r.Int64N(3)}}
	for len(states) < n {
		s := states[len(states)-1]
		next, _ := impl.Apply(s, randomCmd(r, s))
		states = append(states, next)
	}
	return states
}

// Sites that have come to some place of one log: where nothing is unsafe for what another one has come to, nothing that it needs is swept.
func TestSweepingPromise(t *testing.T) {
	r := rand.New(rand.NewPCG(15, 15))
	seen := map[string]int{}
	for range 30 {
		states := randomHistory(r, 120)
		latest := pick(r, 1, 3, 20, len(states)) // how far apart the sites are
		var sites []impl.Site
		for at := range 12 {
			x := impl.Site{Node: int64(at + 1), Store: randomStore(r), State: states[len(states)-1-r.IntN(latest)]}
			sites = append(sites, x)
			gone := checkSweep(t, "at random", x)
			seen[fmt.Sprint("swept ", min(len(gone), 2))]++
			for range 10 {
				later := states[r.IntN(len(states))]
				unsafe := impl.Unsafe(x, later)
				if !slices.Equal(unsafe, slowUnsafe(x, later)) {
					t.Fatalf("%+v, %+v: %q", x, later, unsafe)
				}
				seen[fmt.Sprint("unsafe ", min(len(unsafe), 2))]++
				needed := impl.Needed(later)
				for _, d := range gone {
					if !condemns(x, d) || slices.Contains(needed, d) && !slices.Contains(unsafe, d) {
						t.Fatalf("%+v, %+v: %s is swept", x, later, d)
					}
				}
			}
		}
		for n := 1; n <= len(sites); n++ {
			list, ok := impl.Done(sites[:n])
			if !ok || !slices.Equal(list, slowDone(sites[:n])) {
				t.Fatalf("%+v: Done %q, %v", sites[:n], list, ok)
			}
			seen[fmt.Sprint("done ", min(len(list), 1))]++
		}
	}
	for _, what := range []string{"swept 0", "swept 1", "swept 2", "unsafe 0", "unsafe 1", "unsafe 2", "done 0", "done 1"} {
		if seen[what] < 10 {
			t.Errorf("%s: %d", what, seen[what])
		}
	}
}

func TestSweepingCyclesAgainstTheSlowWay(t *testing.T) {
	r := rand.New(rand.NewPCG(51, 15))
	seen := map[string]int{}
	for range 150 {
		states := randomHistory(r, 80)
		state := states[r.IntN(len(states))]
		var sites []impl.Site
		for node := int64(1); node <= 50 && len(sites) < 6; node++ {
			if r.IntN(8) == 0 {
				sites = append(sites, impl.Site{Node: node, Store: randomStore(r), State: state})
			}
		}
		switch r.IntN(8) {
		case 0:
			if len(sites) > 0 {
				sites[r.IntN(len(sites))].State = states[r.IntN(len(states))]
			}
		case 1:
			if len(sites) > 0 {
				sites[r.IntN(len(sites))].Node = pick(r, append(countUp(1, 50), oddNumbers...)...)
			}
		case 2:
			if len(sites) > 0 {
				sites[r.IntN(len(sites))].Store.Next = pick[int64](r, 1, 2, 3, 4)
			}
		}
		next, cmds, ok := checkCycle(t, "at random", sites)
		seen[fmt.Sprint(ok)]++
		seen[fmt.Sprint("commands ", min(len(cmds), 4))]++
		for i := range next {
			if len(next[i].Store.Blobs) < len(sites[i].Store.Blobs) {
				seen["swept"]++
			}
		}
		list, done := impl.Done(sites)
		if done != slowSitesOk(sites) || done && !slices.Equal(list, slowDone(sites)) {
			t.Fatalf("%+v: %q, %v", sites, list, done)
		}
	}
	for _, what := range []string{"true", "false", "commands 2", "commands 3", "commands 4", "swept"} {
		if seen[what] < 5 {
			t.Errorf("%s: %d", what, seen[what])
		}
	}
}

func roomySite(x impl.Site) impl.Site {
	x.Store, x.State = roomyStore(x.Store), roomyState(x.State)
	return x
}

func partsOfSites(what string, sites []impl.Site) []part {
	var parts []part
	for i, x := range sites {
		name := fmt.Sprint(what, " ", i)
		parts = append(parts, partOf(name+"'s stored Blobs", x.Store.Blobs, impl.Blob{Digest: "changed"}), partOf(name+"'s Uploads", x.Store.Uploads, impl.Upload{Id: -9}))
		parts = append(parts, partsOfState(name, x.State)...)
	}
	return append(parts, shallowPart(what, sites, func(a, b impl.Site) bool {
		return a.Node == b.Node && a.Store.Quota == b.Store.Quota && a.Store.Next == b.Store.Next && a.State.Epoch == b.State.Epoch &&
			sameList(a.Store.Blobs, b.Store.Blobs) && sameList(a.Store.Uploads, b.Store.Uploads) &&
			sameList(a.State.Manifests, b.State.Manifests) && sameList(a.State.Tags, b.State.Tags) && sameList(a.State.Blobs, b.State.Blobs) &&
			sameList(a.State.Condemned, b.State.Condemned) && sameList(a.State.Sessions, b.State.Sessions)
	}, impl.Site{Node: -9}))
}

// A sweepAnswer is what a call of chapter 15 answers.
type sweepAnswer struct {
	sites []impl.Site
	cmds  []impl.Cmd
	list  []string
	ok    bool
}

func (a sweepAnswer) parts() []part {
	parts := []part{partOf("the commands", a.cmds, impl.Cmd{Op: -9}), partOf("the list", a.list, "changed")}
	return append(parts, partsOfSites("the answer's site", a.sites)...)
}

func (a sweepAnswer) clone() sweepAnswer {
	return sweepAnswer{copySites(a.sites), slices.Clone(a.cmds), slices.Clone(a.list), a.ok}
}

func (a sweepAnswer) same(b sweepAnswer) bool {
	return a.ok == b.ok && sameSites(a.sites, b.sites) && slices.Equal(a.cmds, b.cmds) && slices.Equal(a.list, b.list)
}

func TestSweepingAnswersAreTheirOwn(t *testing.T) {
	shared := siteWith(1, "abfgxy", aState())
	other := shared
	other.Node = 2 // the same lists at two sites
	for what, list := range map[string][]impl.Site{
		"none": nil, "one": sitesWith("abcdefgxyz", aState()), "three": sitesWith("abcdefgxyz/fgxy/a", aState()), "lists of two sites": {shared, other},
		"nothing is swept": sitesWith("abc/de", impl.State{}), "done ones": sitesBy(":xyz/a:xyz"), "one still has it": sitesBy("x:xyz/a:xyz"),
		"a wrong one": {shared, {Node: 2}, siteWith(3, "x", aState())}, "Nodes that fall": {other, shared}, "states that differ": {shared, siteWith(2, "x", impl.State{})},
		"the last epoch": sitesWith("x/y", altered(aState(), atEpoch(mostEpoch))), "full ones": sitesWith("abcdefg/xyz", stateOf(40, 100, 200, 40, 20)),
		"with uploads": {{Node: 4, Store: impl.Store{Quota: 300, Blobs: manyBlobs(20), Uploads: manyUploads(3, "ab"), Next: 4}, State: aState()}},
	} {
		sites := roomy(list, impl.Site{Node: 77})
		for i := range sites {
			if what != "lists of two sites" {
				sites[i] = roomySite(sites[i])
			}
		}
		later := roomyState(needing("xyf"))
		parts := append(partsOfSites("the argument's site", sites), partsOfState("later", later)...)
		calls := map[string]func() sweepAnswer{
			"Done":  func() sweepAnswer { l, ok := impl.Done(sites); return sweepAnswer{list: l, ok: ok} },
			"Cycle": func() sweepAnswer { s, c, ok := impl.Cycle(sites); return sweepAnswer{sites: s, cmds: c, ok: ok} },
		}
		for i, x := range sites {
			calls[fmt.Sprint("Sweep ", i)] = func() sweepAnswer {
				s, l, ok := impl.Sweep(x)
				return sweepAnswer{sites: []impl.Site{s}, list: l, ok: ok}
			}
			calls[fmt.Sprint("Unsafe ", i)] = func() sweepAnswer { return sweepAnswer{list: impl.Unsafe(x, later)} }
			calls[fmt.Sprint("SiteOk ", i)] = func() sweepAnswer { return sweepAnswer{ok: impl.SiteOk(x)} }
			calls[fmt.Sprint("CanSweep ", i)] = func() sweepAnswer { return sweepAnswer{ok: impl.CanSweep(x, digestX)} }
		}
		for name, call := range calls {
			checkOwn(t, name+" of "+what, parts, call)
		}
	}
}

func TestSweepingOfOddArguments(t *testing.T) {
	long := strings.Repeat("x", 100000)
	huge := impl.Site{Node: math.MaxInt64, Store: impl.Store{Quota: math.MaxInt64, Next: math.MinInt64}, State: impl.State{Epoch: math.MaxInt64}}
	for range 3000 {
		huge.Store.Blobs = append(huge.Store.Blobs, impl.Blob{Digest: long, Data: long})
		huge.State.Condemned = append(huge.State.Condemned, long)
	}
	for _, node := range []int64{1, math.MaxInt64, math.MinInt64} {
		huge.Node = node
		if got, list, ok := impl.Sweep(huge); ok || len(list) != 0 || !sameSite(got, impl.Site{}) || impl.SiteOk(huge) || impl.CanSweep(huge, long) || len(impl.Unsafe(huge, huge.State)) != 0 {
			t.Error("a huge site is right")
		}
		checkSites(t, "huge", []impl.Site{huge}, false)
	}
	checkSites(t, "many", make([]impl.Site, 100000), false)
	if list := impl.Unsafe(siteWith(1, "x", aState()), huge.State); len(list) != 0 {
		t.Error(list)
	}
}
