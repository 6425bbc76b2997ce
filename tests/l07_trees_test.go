package tests

import (
	"fmt"
	"math/rand/v2"
	"slices"
	"strings"
	"testing"

	"loop.example/g00141/impl"
)

const sixteen = "0123456789abcdef"

// digitsOf is a digest that begins with these digits, with noughts behind them.
func digitsOf(digits string) string {
	return "sha256:" + digits + strings.Repeat("0", 64-len(digits))
}

// setOf is the set of the digests that begin with these digits.
func setOf(digits ...string) []string {
	var set []string
	for _, d := range digits {
		set = append(set, digitsOf(d))
	}
	slices.Sort(set)
	return set
}

// manyDigests is a set of n digests, under prefixes as they come.
func manyDigests(n int) []string {
	var set []string
	for i := range n {
		set = append(set, digestOf(fmt.Sprint(i)))
	}
	slices.Sort(set)
	return set
}

// digestsUnder is a set of n digests under one prefix of two digits.
func digestsUnder(prefix string, n int) []string {
	var set []string
	for i := range n {
		set = append(set, "sha256:"+prefix+digestOf(fmt.Sprint(i))[9:])
	}
	slices.Sort(set)
	return set
}

func allPrefixes() []string {
	var list []string
	textsOver(sixteen, 2, func(s string) { list = append(list, s) })
	return list
}

func slowUnder(set []string, prefix string) []string {
	var list []string
	for _, d := range set {
		if strings.HasPrefix(d, "sha256:"+prefix) {
			list = append(list, d)
		}
	}
	return list
}

func slowNode(set []string, prefix string) string {
	if len(prefix) == 2 {
		return digestOf(strings.Join(slowUnder(set, prefix), ""))
	}
	text := ""
	for _, c := range sixteen {
		text += slowNode(set, prefix+string(c))
	}
	return digestOf(text)
}

// slowWithout are the digests of a that b has not.
func slowWithout(a, b []string) []string {
	var list []string
	for _, d := range a {
		if !slices.Contains(b, d) {
			list = append(list, d)
		}
	}
	return list
}

// slowAsked tells the prefixes by the digests that differ: a node is unlike where one is under it.
func slowAsked(a, b []string) []string {
	differ := append(slowWithout(a, b), slowWithout(b, a)...)
	asked := []string{""}
	for i := 0; i < len(asked) && len(asked[i]) < 2; i++ {
		if len(slowUnder(differ, asked[i])) == 0 {
			continue
		}
		for _, c := range sixteen {
			asked = append(asked, asked[i]+string(c))
		}
	}
	return asked
}

// wrongSets are lists that are no sets, each for one cause.
func wrongSets() map[string][]string {
	three, great := setOf("0a", "5b", "ca"), manyDigests(200)
	lists := map[string][]string{
		"201": manyDigests(201), "400": manyDigests(400), "201 under one prefix": digestsUnder("ca", 201),
		"turned round": {three[1], three[0]}, "the last two turned round": {three[0], three[2], three[1]},
		"the first two turned round": {three[1], three[0], three[2]},
		"one twice":                  {three[0], three[0]}, "the last one twice": {three[0], three[1], three[1]},
		"the first one twice": {three[0], three[0], three[1]}, "one twice, not side by side": {three[0], three[1], three[0]},
		"falling in the last digit": {digitsOf("0")[:70] + "1", digitsOf("0")},
		"falling in the middle":     {digitsOf("00000000000001"), digitsOf("0000000000000")},
		"200 turned round":          append(slices.Clone(great[1:]), great[0]),
		"200, the last one twice":   append(slices.Clone(great[:199]), great[198]),
	}
	for what, none := range noDigests(three[1]) {
		for at := range 3 {
			list := slices.Clone(three)
			list[at] = none
			lists[fmt.Sprint(what, " at ", at)] = list
		}
		lists[what+" alone"] = []string{none}
	}
	return lists
}

// noDigests are texts that are no digests, made of one that is.
func noDigests(d string) map[string]string {
	return map[string]string{
		"nothing": "", "a head alone": "sha256:", "no head": d[7:], "another head": "sha512:" + d[7:], "a great head": "SHA256:" + d[7:],
		"great letters": d[:8] + "B" + d[9:], "a digit too few": d[:70], "a digit too many": d + "0", "no digit": d[:70] + "g",
		"no digit at first": "sha256:g" + d[8:], "a blank ahead": " " + d, "a blank behind": d + " ", "a line's end": d + "\n",
		"a sign above 9": d[:8] + ":" + d[9:], "a sign below a": d[:8] + "`" + d[9:], "a sign below 0": d[:8] + "/" + d[9:],
		"a byte 0": d[:70] + "\x00", "a byte 255": d[:70] + "\xff",
	}
}

// wrongPrefixes are texts that are no prefixes.
var wrongPrefixes = []string{
	"000", "0a5", "abc", "ca9", "00 ", "0000", "g", "A", "F", "G", "0g", "g0", "aF", "Fa", "CA", "cA", "Ca", "/", ":", "`", "@", " ", "-",
	"0/", "/0", "0:", ":0", "0`", "`0", "x", "0x", " 0", "0 ", "+1", "-1", "\x00", "0\x00", "\x000", "\xff", "0\xff", "é", "\n", "sha256:", "sha256:0",
	strings.Repeat("0", 64), digitsOf("00"), strings.Repeat("0", 257), strings.Repeat("0", 258),
}

func rightSets() map[string][]string {
	return map[string][]string{
		"none": nil, "an empty list": {}, "one": setOf("ca"), "the least": setOf("0"), "the greatest": {"sha256:" + strings.Repeat("f", 64)},
		"two under one prefix": setOf("ca", "ca1"), "two under one digit": setOf("c0", "cf"), "two under unlike digits": setOf("0c", "c0"),
		"each first digit": setOf("00", "10", "20", "30", "40", "50", "60", "70", "80", "90", "a0", "b0", "c0", "d0", "e0", "f0"),
		"each second one":  setOf("70", "71", "72", "73", "74", "75", "76", "77", "78", "79", "7a", "7b", "7c", "7d", "7e", "7f"),
		"like digits":      setOf("0", "00001", "0f", "0ff", "f", "f0001", "ff", "fff"),
		"40":               manyDigests(40), "199": manyDigests(199), "200": manyDigests(200),
		"199 under one prefix": digestsUnder("ca", 199), "200 under one prefix": digestsUnder("0f", 200),
		"unlike in the last digit": {digitsOf("ca"), digitsOf("ca")[:70] + "1", digitsOf("ca")[:70] + "f"},
	}
}

func TestNodesOfKnownSets(t *testing.T) {
	abc := []string{
		"sha256:2e7d2c03a9507ae265ecf5b5356885a53393a2029d241394997265a1a25aefc6",
		"sha256:3e23e8160039594a33894f6564e1b1348bbd7a0088d42c4acb73eeaed59c009d",
		"sha256:ca978112ca1bbdcafac231b39a23dc4da786eff8147c4e72b9807785afee48bb",
	}
	const leaf, one = "sha256:e3b0c44298fc1c149afbf4c8996fb92427ae41e4649b934ca495991b7852b855", "sha256:b052c365ffcc9b129a3c4833f425464afb720f2fe58c6e04ac011a7b909184a5"
	for _, r := range []struct {
		set          []string
		prefix, want string
	}{
		{nil, "", "sha256:fa0ec9f640280f9030454f24c5b894add183e0e01921311d93cf5e414e3d9877"},
		{nil, "0", one}, {nil, "f", one}, {nil, "00", leaf}, {nil, "ca", leaf}, {nil, "ff", leaf},
		{abc, "", "sha256:3a4c64883e01441abd91ec32a36a353fe34e8cfba9c4366307666fe48273bf09"},
		{abc, "c", "sha256:f344cb95c37fbde21cfc2742c6e82adac410c044c1b0439d4d0616fdea1ee9f2"},
		{abc, "ca", "sha256:6d8171ef8774947e10b7e48737920a68387284de36e5f0a5d6c6b319837e49f3"},
		{abc, "a", one}, {abc, "ac", leaf}, {abc, "c0", leaf},
	} {
		if got, ok := impl.NodeOf(r.set, r.prefix); got != r.want || !ok {
			t.Errorf("NodeOf of %d digests under %q: %s, %v", len(r.set), r.prefix, got, ok)
		}
	}
}

func TestNodeOfAndUnder(t *testing.T) {
	prefixes := allPrefixes()
	if len(prefixes) != 273 {
		t.Fatal(len(prefixes))
	}
	for what, set := range rightSets() {
		for _, prefix := range prefixes {
			if got, ok := impl.NodeOf(set, prefix); got != slowNode(set, prefix) || !ok {
				t.Errorf("%s: NodeOf under %q: %s, %v", what, prefix, got, ok)
			}
			if got := impl.Under(set, prefix); !slices.Equal(got, slowUnder(set, prefix)) {
				t.Errorf("%s: Under %q: %q", what, prefix, got)
			}
		}
	}
}

func TestNodeOfAndUnderOfWrongPrefixes(t *testing.T) {
	for what, set := range rightSets() {
		for _, prefix := range wrongPrefixes {
			if got, ok := impl.NodeOf(set, prefix); got != "" || ok {
				t.Errorf("%s: NodeOf under %q: %q, %v", what, prefix, got, ok)
			}
			if got := impl.Under(set, prefix); len(got) != 0 {
				t.Errorf("%s: Under %q: %q", what, prefix, got)
			}
		}
	}
}

func TestPrefixesOfEachByte(t *testing.T) {
	set := manyDigests(200)
	for c := range 256 {
		b := string([]byte{byte(c)})
		want := strings.Contains(sixteen, b)
		for _, prefix := range []string{b, "0" + b, b + "0", b + b} {
			if _, ok := impl.NodeOf(set, prefix); ok != want {
				t.Errorf("NodeOf under %q: %v", prefix, ok)
			}
			if got := impl.Under(set, prefix); !want && len(got) != 0 {
				t.Errorf("Under %q: %q", prefix, got)
			}
		}
	}
}

func TestListsThatAreNoSets(t *testing.T) {
	right := setOf("0a", "77")
	for what, list := range wrongSets() {
		for _, prefix := range []string{"", "0", "0a", "ca", "g", "000", "A"} {
			if got, ok := impl.NodeOf(list, prefix); got != "" || ok {
				t.Errorf("%s: NodeOf under %q: %q, %v", what, prefix, got, ok)
			}
			if got := impl.Under(list, prefix); len(got) != 0 {
				t.Errorf("%s: Under %q: %q", what, prefix, got)
			}
		}
		for _, digest := range []string{list[0], list[len(list)-1], digitsOf("0a"), digitsOf("77"), digitsOf("ff"), "", "x"} {
			if got, ok := impl.AddTo(list, digest); len(got) != 0 || ok {
				t.Errorf("%s: AddTo of %q: %q, %v", what, digest, got, ok)
			}
			if got, ok := impl.CutFrom(list, digest); len(got) != 0 || ok {
				t.Errorf("%s: CutFrom of %q: %q, %v", what, digest, got, ok)
			}
		}
		for _, pair := range [][2][]string{{list, right}, {right, list}, {list, list}, {list, nil}, {nil, list}} {
			asked, more, less, ok := impl.Steps(pair[0], pair[1])
			if len(asked) != 0 || len(more) != 0 || len(less) != 0 || ok {
				t.Errorf("%s: Steps: %q, %q, %q, %v", what, asked, more, less, ok)
			}
		}
	}
}

// under16 are the sixteen prefixes of a digit more than this one.
func under16(prefix string) []string {
	var list []string
	for _, c := range sixteen {
		list = append(list, prefix+string(c))
	}
	return list
}

func TestStepsByHand(t *testing.T) {
	some, other := setOf("0a", "0b", "5b", "ca", "cab"), setOf("0a", "0b", "5b", "ca", "cab", "cac")
	root := append([]string{""}, under16("")...)
	asks := func(prefixes ...string) []string {
		list := slices.Clone(root)
		for _, p := range prefixes {
			list = append(list, under16(p)...)
		}
		return list
	}
	for _, r := range []struct {
		what             string
		a, b             []string
		asked, more, has []string
	}{
		{"two empty ones", nil, nil, []string{""}, nil, nil},
		{"two like ones", some, slices.Clone(some), []string{""}, nil, nil},
		{"two like ones of 200", manyDigests(200), manyDigests(200), []string{""}, nil, nil},
		{"the empty one and one digest", nil, setOf("ca"), asks("c"), nil, setOf("ca")},
		{"one digest and the empty one", setOf("ca"), nil, asks("c"), setOf("ca"), nil},
		{"the empty one and some", nil, some, asks("0", "5", "c"), nil, some},
		{"some and the empty one", some, nil, asks("0", "5", "c"), some, nil},
		{"one digest less", some, other, asks("c"), nil, setOf("cac")},
		{"one digest more", other, some, asks("c"), setOf("cac"), nil},
		{"two more under one prefix", append(setOf("ca", "cab"), setOf("cb")...), setOf("cb"), asks("c"), setOf("ca", "cab"), nil},
		{"one more and one less under one prefix", setOf("ca1", "cb"), setOf("ca2", "cb"), asks("c"), setOf("ca1"), setOf("ca2")},
		{"one more and one less under one digit", setOf("c1"), setOf("cf"), asks("c"), setOf("c1"), setOf("cf")},
		{"one more and one less under unlike digits", setOf("0a", "77"), setOf("77", "fa"), asks("0", "f"), setOf("0a"), setOf("fa")},
		{"the other way round", setOf("77", "fa"), setOf("0a", "77"), asks("0", "f"), setOf("fa"), setOf("0a")},
		{"the least and the greatest prefix", setOf("00", "ff"), nil, asks("0", "f"), setOf("00", "ff"), nil},
		{"only beside like ones", setOf("70", "71", "72"), setOf("70", "72"), asks("7"), setOf("71"), nil},
		{"unlike in the last digit", []string{digitsOf("ca")}, []string{digitsOf("ca")[:70] + "1"}, asks("c"), setOf("ca"), []string{digitsOf("ca")[:70] + "1"}},
		{"all of one prefix", digestsUnder("ca", 200), nil, asks("c"), digestsUnder("ca", 200), nil},
		{"all digits", setOf(under16("a")...), setOf(under16("")...), asks("0", "1", "2", "3", "4", "5", "6", "7", "8", "9", "a", "b", "c", "d", "e", "f"),
			setOf("a1", "a2", "a3", "a4", "a5", "a6", "a7", "a8", "a9", "aa", "ab", "ac", "ad", "ae", "af"), setOf("0", "1", "2", "3", "4", "5", "6", "7", "8", "9", "b", "c", "d", "e", "f")},
	} {
		asked, more, less, ok := impl.Steps(r.a, r.b)
		if !slices.Equal(asked, r.asked) || !slices.Equal(more, r.more) || !slices.Equal(less, r.has) || !ok {
			t.Errorf("%s: %q, %q, %q, %v", r.what, asked, more, less, ok)
		}
		checkSteps(t, r.what, r.a, r.b)
	}
}

// checkSteps holds Steps against the slow way, and makes the other set of the one.
func checkSteps(t *testing.T, what string, a, b []string) {
	t.Helper()
	asked, more, less, ok := impl.Steps(a, b)
	if !ok || !slices.Equal(asked, slowAsked(a, b)) {
		t.Errorf("%s: asked for %q, %v", what, asked, ok)
	}
	if !slices.Equal(more, slowWithout(a, b)) || !slices.Equal(less, slowWithout(b, a)) {
		t.Errorf("%s: %q more, %q less", what, more, less)
	}
	set := slices.Clone(a)
	for _, d := range more {
		if set, ok = impl.CutFrom(set, d); !ok {
			t.Fatalf("%s: %s is not cut", what, d)
		}
	}
	for _, d := range less {
		if set, ok = impl.AddTo(set, d); !ok {
			t.Fatalf("%s: %s is not added", what, d)
		}
	}
	if !slices.Equal(set, b) {
		t.Errorf("%s: not the other set: %q", what, set)
	}
}

func TestStepsOfEachTwoSets(t *testing.T) {
	for what, a := range rightSets() {
		for other, b := range rightSets() {
			checkSteps(t, what+" and "+other, a, b)
		}
	}
}

func TestStepsAskByNodes(t *testing.T) {
	a, b := manyDigests(150), manyDigests(170)
	asked, _, _, _ := impl.Steps(a, b)
	want := []string{""}
	for i := 0; i < len(want); i++ {
		p := want[i]
		if len(p) == 2 || slowNode(a, p) == slowNode(b, p) {
			continue
		}
		want = append(want, under16(p)...)
	}
	if !slices.Equal(asked, want) {
		t.Errorf("%q", asked)
	}
}

func TestStepsAgainstTheSlowWay(t *testing.T) {
	r := rand.New(rand.NewPCG(7, 7))
	for range 150 {
		all := manyDigests(1 + r.IntN(230))
		if r.IntN(3) == 0 {
			all = digestsUnder("5a", 1+r.IntN(30))
		}
		chance := 1 + r.IntN(40)
		var a, b []string
		for _, d := range all {
			where := r.IntN(2 * chance)
			if where != 0 && len(a) < 200 {
				a = append(a, d)
			}
			if where != 1 && len(b) < 200 {
				b = append(b, d)
			}
		}
		checkSteps(t, fmt.Sprint(len(a), " and ", len(b)), a, b)
	}
}

func TestSetsWithOneRootAreOne(t *testing.T) {
	digests := setOf("00", "0001", "01", "10", "a0", "a1", "a1f")
	roots := map[string]int{}
	for number, places := range choices(len(digests)) {
		var set []string
		for _, at := range places {
			set = append(set, digests[at])
		}
		root, ok := impl.NodeOf(set, "")
		if !ok || root != slowNode(set, "") {
			t.Fatalf("%q: %s, %v", set, root, ok)
		}
		if other, known := roots[root]; known {
			t.Errorf("sets %d and %d have one root", other, number)
		}
		roots[root] = number
	}
}

func TestAddToAndCutFrom(t *testing.T) {
	for what, set := range rightSets() {
		fresh := []string{digitsOf("000000000001"), digitsOf("777777"), "sha256:" + strings.Repeat("f", 63) + "e", digestOf("fresh")}
		for _, d := range fresh {
			want := slices.Sorted(slices.Values(append(slices.Clone(set), d)))
			got, ok := impl.AddTo(set, d)
			if fits := len(set) < 200; ok != fits || fits && !slices.Equal(got, want) || !fits && len(got) != 0 {
				t.Errorf("%s: AddTo of %s: %q, %v", what, d, got, ok)
			}
			if cut, ok := impl.CutFrom(set, d); len(cut) != 0 || ok {
				t.Errorf("%s: CutFrom of %s, which is not there: %q, %v", what, d, cut, ok)
			}
			if len(set) == 200 {
				continue
			}
			if back, ok := impl.CutFrom(got, d); !slices.Equal(back, set) || !ok {
				t.Errorf("%s: CutFrom behind AddTo of %s: %q, %v", what, d, back, ok)
			}
		}
		for at, d := range set {
			if got, ok := impl.AddTo(set, d); !slices.Equal(got, set) || !ok {
				t.Errorf("%s: AddTo of %s, which is there: %q, %v", what, d, got, ok)
			}
			want := slices.Delete(slices.Clone(set), at, at+1)
			got, ok := impl.CutFrom(set, d)
			if !slices.Equal(got, want) || !ok {
				t.Errorf("%s: CutFrom of %s: %q, %v", what, d, got, ok)
			}
			if back, ok := impl.AddTo(got, d); !slices.Equal(back, set) || !ok {
				t.Errorf("%s: AddTo behind CutFrom of %s: %q, %v", what, d, back, ok)
			}
		}
		for why, none := range noDigests(digitsOf("5b")) {
			if got, ok := impl.AddTo(set, none); len(got) != 0 || ok {
				t.Errorf("%s: AddTo of one with %s: %q, %v", what, why, got, ok)
			}
			if got, ok := impl.CutFrom(set, none); len(got) != 0 || ok {
				t.Errorf("%s: CutFrom of one with %s: %q, %v", what, why, got, ok)
			}
		}
	}
}

func TestEachDigitIsKept(t *testing.T) {
	base := digitsOf("")
	for at := 7; at < len(base); at++ {
		for _, c := range sixteen {
			d := base[:at] + string(c) + base[at+1:]
			if got, ok := impl.AddTo(nil, d); len(got) != 1 || got[0] != d || !ok {
				t.Errorf("AddTo of %s: %q, %v", d, got, ok)
			}
			if c == '0' {
				continue
			}
			if got, ok := impl.AddTo([]string{d}, base); !slices.Equal(got, []string{base, d}) || !ok {
				t.Errorf("AddTo ahead of %s: %q, %v", d, got, ok)
			}
			if got, ok := impl.CutFrom([]string{base}, d); len(got) != 0 || ok {
				t.Errorf("CutFrom of %s: %q, %v", d, got, ok)
			}
		}
	}
}

func TestTreeAnswersAreTheirOwn(t *testing.T) {
	type lists [][]string
	there, fresh := manyDigests(9)[4], digestOf("fresh")
	other := roomy(manyDigests(12), "spare")
	calls := map[string]func([]string) lists{
		"Under":              func(s []string) lists { return lists{impl.Under(s, "")} },
		"Under a digit":      func(s []string) lists { return lists{impl.Under(s, there[7:8])} },
		"Under two":          func(s []string) lists { return lists{impl.Under(s, there[7:9])} },
		"AddTo":              func(s []string) lists { l, _ := impl.AddTo(s, fresh); return lists{l} },
		"AddTo again":        func(s []string) lists { l, _ := impl.AddTo(s, there); return lists{l} },
		"AddTo of none":      func(s []string) lists { l, _ := impl.AddTo(s, "x"); return lists{l} },
		"CutFrom":            func(s []string) lists { l, _ := impl.CutFrom(s, there); return lists{l} },
		"CutFrom of no such": func(s []string) lists { l, _ := impl.CutFrom(s, fresh); return lists{l} },
		"Steps":              func(s []string) lists { a, b, c, _ := impl.Steps(s, other); return lists{a, b, c} },
		"Steps back":         func(s []string) lists { a, b, c, _ := impl.Steps(other, s); return lists{a, b, c} },
		"Steps of one":       func(s []string) lists { a, b, c, _ := impl.Steps(s, s); return lists{a, b, c} },
		"NodeOf": func(s []string) lists {
			root, ok := impl.NodeOf(s, "")
			return lists{{root, fmt.Sprint(ok)}}
		},
	}
	for _, set := range [][]string{nil, manyDigests(1), manyDigests(9), manyDigests(20), manyDigests(199), manyDigests(200), manyDigests(201), {"b", "a"}} {
		for name, call := range calls {
			argument := roomy(set, "spare")
			watches := []watch{watchOver("the argument", argument), watchOver("the other one", other)}
			answer := call(argument)
			checkWatches(t, name, watches)
			var before lists
			for _, list := range answer {
				before = append(before, slices.Clone(list))
			}
			for i, list := range answer {
				scribble(list, "changed")
				for j := i + 1; j < len(answer); j++ {
					if !slices.Equal(answer[j], before[j]) {
						t.Errorf("%s: lists %d and %d share", name, i, j)
					}
				}
			}
			checkWatches(t, name+", scribbled on", watches)
			for i, list := range call(argument) {
				if !slices.Equal(list, before[i]) {
					t.Errorf("%s: the same argument, another answer: %q", name, list)
				}
			}
		}
	}
}
