package tests

import (
	"fmt"
	"math"
	"math/rand/v2"
	"runtime"
	"slices"
	"strings"
	"sync"
	"testing"
	"time"
	"unsafe"

	"loop.example/g00141/impl"
)

// The slow way of chapter 14: written from the document's words, beside the program.

func slowArgumentsOk(needed []string, nodes []int64, have [][]string, k int64) bool {
	for _, list := range have {
		if !slowSetOk(list) {
			return false
		}
	}
	return slowSetOk(needed) && slowNodesOk(nodes) && len(have) == len(nodes) && k >= 1 && k <= 7
}

func slowPlan(needed []string, nodes []int64, have [][]string, k int64) (plan []impl.Copy, lost []string) {
	has := func(node int64, d string) bool { return slices.Contains(have[slices.Index(nodes, node)], d) }
	for _, d := range needed {
		from := int64(0)
		for _, node := range slowRanked(d, nodes) {
			if from == 0 && has(node, d) {
				from = node
			}
		}
		if from == 0 {
			lost = append(lost, d)
			continue
		}
		for _, to := range slowHolders(d, nodes, k) {
			if !has(to, d) {
				plan = append(plan, impl.Copy{Digest: d, From: from, To: to})
			}
		}
	}
	return plan, lost
}

func slowSpare(needed []string, nodes []int64, have [][]string, k int64) []impl.Copy {
	var spare []impl.Copy
	for place, node := range nodes {
		for _, d := range have[place] {
			if !slices.Contains(needed, d) {
				continue
			}
			holders := slowHolders(d, nodes, k)
			all := true
			for _, holder := range holders {
				all = all && slices.Contains(have[slices.Index(nodes, holder)], d)
			}
			if all && !slices.Contains(holders, node) {
				spare = append(spare, impl.Copy{Digest: d, From: node, To: node})
			}
		}
	}
	return spare
}

// slowCarry does one copy behind the other by GetBlob and Keep; and tells of each whether it was done.
func slowCarry(stores []impl.Store, nodes []int64, plan []impl.Copy) ([]impl.Store, []bool) {
	var next []impl.Store
	for _, s := range stores {
		next = append(next, copyStore(s))
	}
	var done []bool
	for _, c := range plan {
		from, to := slices.Index(nodes, c.From), slices.Index(nodes, c.To)
		data, there := impl.GetBlob(next[from], c.Digest)
		if !there {
			done = append(done, false)
			continue
		}
		kept, code := impl.Keep(next[to], data)
		next[to] = kept
		done = append(done, code == impl.BlOk)
	}
	return next, done
}

func countOf(list []bool) int64 {
	n := int64(0)
	for _, b := range list {
		if b {
			n++
		}
	}
	return n
}

func sameStores(a, b []impl.Store) bool {
	return slices.EqualFunc(a, b, sameStore)
}

// lettersOf is the set of the blobs x, y, z, .. that a text names by their letters.
func lettersOf(text string) []string {
	var set []string
	for _, c := range text {
		set = append(set, digestOf(string(c)))
	}
	slices.Sort(set)
	return set
}

// haves tells what each node has, by letters, with a / between each two.
func haves(text string) [][]string {
	var have [][]string
	for _, part := range strings.Split(text, "/") {
		have = append(have, lettersOf(part))
	}
	return have
}

func TestRepairPlanByHand(t *testing.T) {
	five := countUp(1, 5)
	for _, r := range []struct {
		what, needed string
		nodes        []int64
		have         string
		k            int64
		plan, lost   string
	}{
		{"all holders have all", "xzy", five, "xy/xz/y/z/", 2, "", ""},
		{"all nodes have all", "xzy", five, "xyz/xyz/xyz/xyz/xyz", 2, "", ""},
		{"one holder has it", "xzy", five, "x/z//z/", 2, "x1>2", "y"},
		{"the other holder has it", "xzy", five, "y/xz/y//", 2, "x2>1 z2>4", ""},
		{"one that is no holder has it", "x", five, "//x//", 2, "x3>1 x3>2", ""},
		{"one that is no holder has all", "xzy", five, "////xzy", 2, "x5>1 x5>2 z5>2 z5>4 y5>1 y5>3", ""},
		{"one more has it than all holders", "x", five, "x/x///x", 2, "", ""},
		{"two have it, the first of Ranked gives it", "z", five, "z////z", 2, "z5>2 z5>4", ""},
		{"two have it, by ranks and not by numbers", "z", five, "z//z//", 2, "z3>2 z3>4", ""},
		{"three have it, one of them a holder", "z", five, "z//z/z/", 2, "z4>2", ""},
		{"three have it, one of them the first holder", "z", five, "zy/z/z//", 2, "z2>4", ""},
		{"nobody has anything", "xzy", five, "////", 2, "", "xzy"},
		{"nobody has one of them", "xzy", five, "x//z//", 2, "x1>2 z3>2 z3>4", "y"},
		{"what is not needed stays", "x", five, "xyz/y/z/yz/", 2, "x1>2", ""},
		{"nothing is needed", "", five, "xyz/y/z/yz/", 2, "", ""},
		{"nothing is needed, nothing is there", "", five, "////", 7, "", ""},
		{"one holder each", "xzy", five, "zy/y/x//x", 1, "x3>2 z1>2 y1>3", ""},
		{"as many holders as nodes", "z", five, "//z//", 5, "z3>1 z3>2 z3>4 z3>5", ""},
		{"fewer nodes than holders", "z", five, "//z//", 7, "z3>1 z3>2 z3>4 z3>5", ""},
		{"one node has it", "x", []int64{9}, "x", 7, "", ""},
		{"one node has it not", "x", []int64{9}, "y", 7, "", "x"},
		{"four of the nodes", "xzy", []int64{1, 2, 3, 4}, "xzy///", 2, "x1>2 z1>2 z1>4 y1>3", ""},
		{"with gaps", "xz", []int64{1, 4, 5}, "/x/z", 2, "x4>1 z5>4", ""},
	} {
		plan, lost, ok := impl.Plan(lettersOf(r.needed), r.nodes, haves(r.have), r.k)
		if !ok || !slices.Equal(plan, copiesOf(r.plan)) || !slices.Equal(lost, lettersOf(r.lost)) {
			t.Errorf("%s: %+v, %q, %v", r.what, plan, lost, ok)
		}
	}
	for k := int64(1); k <= 7; k++ {
		plan, lost, ok := impl.Plan(xzy(), nil, nil, k)
		if !ok || len(plan) != 0 || !slices.Equal(lost, xzy()) {
			t.Errorf("no node, %d: %+v, %q, %v", k, plan, lost, ok)
		}
		plan, lost, ok = impl.Plan(nil, nil, [][]string{}, k)
		if !ok || len(plan) != 0 || len(lost) != 0 {
			t.Errorf("no node and nothing needed, %d: %+v, %q, %v", k, plan, lost, ok)
		}
	}
}

func TestRepairSpareByHand(t *testing.T) {
	five := countUp(1, 5)
	for _, r := range []struct {
		what, needed string
		nodes        []int64
		have         string
		k            int64
		want         string
	}{
		{"where it belongs", "xzy", five, "xy/xz/y/z/", 2, ""},
		{"one more has it", "xzy", five, "xy/xz/yx/z/", 2, "x3>3"},
		{"one more has it that is not needed", "zy", five, "xy/xz/yx/z/", 2, ""},
		{"all have all", "xzy", five, "xzy/xzy/xzy/xzy/xzy", 2, "z1>1 y2>2 x3>3 z3>3 x4>4 y4>4 x5>5 z5>5 y5>5"},
		{"all have all, one is needed", "z", five, "xzy/xzy/xzy/xzy/xzy", 2, "z1>1 z3>3 z5>5"},
		{"a holder has it not", "x", five, "x//x/x/x", 2, ""},
		{"the other holder has it not", "x", five, "/x/x/x/x", 2, ""},
		{"no holder has it", "x", five, "//x/x/x", 2, ""},
		{"of one the holders have not got it", "xz", five, "xz/xz/xz/x/xz", 2, "x3>3 x4>4 x5>5"},
		{"one holder", "xzy", five, "x/xzy/y//z", 1, "x1>1 y2>2 z5>5"},
		{"all nodes are holders", "xzy", five, "xzy/xzy/xzy/xzy/xzy", 5, ""},
		{"fewer nodes than holders", "xzy", five, "xzy/xzy/xzy/xzy/xzy", 7, ""},
		{"one has it not, of four holders", "x", five, "x/x/x//x", 4, ""},
		{"four holders", "x", five, "x/x/x/x/x", 4, "x5>5"},
		{"nobody has anything", "xzy", five, "////", 2, ""},
		{"nothing is needed", "", five, "xzy/xzy/xzy/xzy/xzy", 2, ""},
		{"one node", "x", []int64{9}, "x", 1, ""},
		{"with gaps", "xz", []int64{1, 4, 5}, "xz/xz/xz", 2, "z1>1 x5>5"},
	} {
		got, ok := impl.Spare(lettersOf(r.needed), r.nodes, haves(r.have), r.k)
		if !ok || !slices.Equal(got, copiesOf(r.want)) {
			t.Errorf("%s: %+v, %v", r.what, got, ok)
		}
	}
	for k := int64(1); k <= 7; k++ {
		if got, ok := impl.Spare(xzy(), nil, nil, k); !ok || len(got) != 0 {
			t.Errorf("no node, %d: %+v, %v", k, got, ok)
		}
	}
}

// checkSurvey asks Plan and Spare, and wants both refused, or not.
func checkSurvey(t *testing.T, what string, needed []string, nodes []int64, have [][]string, k int64, right bool) {
	t.Helper()
	plan, lost, ok := impl.Plan(needed, nodes, have, k)
	if ok != right || !ok && len(plan)+len(lost) != 0 {
		t.Errorf("%s: Plan %+v, %q, %v", what, plan, lost, ok)
	}
	spare, ok := impl.Spare(needed, nodes, have, k)
	if ok != right || !ok && len(spare) != 0 {
		t.Errorf("%s: Spare %+v, %v", what, spare, ok)
	}
}

func TestRepairPlansOfWrongArguments(t *testing.T) {
	three, have := countUp(1, 3), haves("x/z/xzy")
	checkSurvey(t, "all is right", xzy(), three, have, 2, true)
	for k := int64(1); k <= 7; k++ {
		checkSurvey(t, fmt.Sprint(k), xzy(), three, have, k, true)
		checkSurvey(t, fmt.Sprint(k, " of no node"), xzy(), nil, nil, k, true)
	}
	for _, k := range wrongCounts {
		checkSurvey(t, fmt.Sprint(k), xzy(), three, have, k, false)
		checkSurvey(t, fmt.Sprint(k, " of no node"), nil, nil, nil, k, false)
		checkSurvey(t, fmt.Sprint(k, ", nothing needed"), nil, three, have, k, false)
	}
	for what, text := range map[string]string{"one shorter": "x/z", "one longer": "x/z/xzy/", "two longer": "x/z/xzy/x/z", "one": "xzy"} {
		checkSurvey(t, what, xzy(), three, haves(text), 2, false)
		checkSurvey(t, what+", nothing needed", nil, three, haves(text), 2, false)
	}
	checkSurvey(t, "no have", xzy(), three, nil, 2, false)
	checkSurvey(t, "have without nodes", xzy(), nil, haves(""), 2, false)
	for what, set := range wrongSets() {
		checkSurvey(t, "needed: "+what, set, three, have, 2, false)
		checkSurvey(t, "needed of no node: "+what, set, nil, nil, 2, false)
		for place := range have {
			wrong := slices.Clone(have)
			wrong[place] = set
			checkSurvey(t, fmt.Sprint("have ", place, ": ", what), xzy(), three, wrong, 2, false)
			checkSurvey(t, fmt.Sprint("have ", place, ", nothing needed: ", what), nil, three, wrong, 2, false)
		}
	}
	for what, nodes := range wrongNodeLists() {
		checkSurvey(t, "nodes: "+what, xzy(), nodes, make([][]string, len(nodes)), 2, false)
		checkSurvey(t, "nodes, nothing needed: "+what, nil, nodes, make([][]string, len(nodes)), 2, false)
	}
	for what, nodes := range rightNodeLists() {
		checkSurvey(t, "nodes: "+what, xzy(), nodes, make([][]string, len(nodes)), 2, true)
	}
}

// storeWith has the blobs with these letters, and room for some more.
func storeWith(letters string, room int64) impl.Store {
	s := impl.Store{Quota: int64(len(letters)) + room, Next: 1}
	if letters != "" {
		s.Blobs = blobsOf(strings.Split(letters, "")...)
	}
	return s
}

// storesWith tells what each node has, as haves does.
func storesWith(text string, room int64) []impl.Store {
	var stores []impl.Store
	for _, letters := range strings.Split(text, "/") {
		stores = append(stores, storeWith(letters, room))
	}
	return stores
}

// checkCarry holds Carry against the slow way.
func checkCarry(t *testing.T, what string, stores []impl.Store, nodes []int64, plan []impl.Copy) (got []impl.Store, done []bool) {
	t.Helper()
	got, n, ok := impl.Carry(stores, nodes, plan)
	want, done := slowCarry(stores, nodes, plan)
	if !ok || n != countOf(done) || !sameStores(got, want) {
		t.Fatalf("%s: %+v, %d, %v; not %+v, %d", what, got, n, ok, want, countOf(done))
	}
	return got, done
}

func TestRepairCarryByHand(t *testing.T) {
	three := countUp(1, 3)
	for _, r := range []struct {
		what, have string
		room       int64
		plan, then string
		done       int64
	}{
		{"an empty plan", "x/y/z", 5, "", "x/y/z", 0},
		{"one", "x//", 5, "x1>2", "x/x/", 1},
		{"to two", "x//", 5, "x1>2 x1>3", "x/x/x", 2},
		{"from each to each", "x/y/z", 5, "x1>2 x1>3 y2>1 y2>3 z3>1 z3>2", "xyz/xyz/xyz", 6},
		{"From has not got it", "x/y/z", 5, "y1>2", "x/y/z", 0},
		{"From has not got it, To has", "x/y/z", 5, "y1>3 z1>2 z1>3 y1>2", "x/y/z", 0},
		{"some of them", "x//", 5, "y1>2 x1>2 x2>1 z3>2", "x/x/", 2},
		{"handed on", "x//", 5, "x1>2 x2>3", "x/x/x", 2},
		{"handed on too early", "x//", 5, "x2>3 x1>2", "x/x/", 1},
		{"handed on too early, and again", "x//", 5, "x2>3 x1>2 x2>3", "x/x/x", 2},
		{"handed round", "x//", 5, "x1>2 x2>3 x3>1 x1>3", "x/x/x", 4},
		{"handed on beside another one", "xy//", 5, "x1>2 y2>3 y1>2 x2>3 y2>3", "xy/xy/xy", 4},
		{"no room", "x//", 0, "x1>2 x1>3", "x//", 0},
		{"room for one of two", "xy//", 1, "y1>2 x1>2", "xy/y/", 1},
		{"room for one of two, the other way", "xy//", 1, "x1>2 y1>2", "xy/x/", 1},
		{"no room, so it is not handed on", "xy//", 1, "y1>2 x1>2 x2>3 y2>3", "xy/y/y", 2},
	} {
		stores := storesWith(r.have, r.room)
		got, done := checkCarry(t, r.what, stores, three, copiesOf(r.plan))
		for place, letters := range strings.Split(r.then, "/") {
			if digests := impl.DigestsOf(got[place]); !slices.Equal(digests, lettersOf(letters)) || !impl.StoreOk(got[place]) {
				t.Errorf("%s: the store %d has %q", r.what, place, digests)
			}
		}
		if countOf(done) != r.done {
			t.Errorf("%s: %d done", r.what, countOf(done))
		}
	}
	if got, n, ok := impl.Carry(nil, nil, nil); !ok || n != 0 || len(got) != 0 {
		t.Errorf("no node: %+v, %d, %v", got, n, ok)
	}
}

func TestRepairCarryOfWholeStores(t *testing.T) {
	giving := impl.Store{Quota: 200, Blobs: append(manyBlobs(5), blobsOf("", "new", "1234")...), Next: 4}
	slices.SortFunc(giving.Blobs, func(a, b impl.Blob) int { return strings.Compare(a.Digest, b.Digest) })
	for _, r := range []struct {
		what string
		to   impl.Store
		data []string
		done []bool
	}{
		{"the first", impl.Store{Quota: 10, Next: 1}, []string{"new"}, []bool{true}},
		{"an empty one", impl.Store{Next: 1}, []string{""}, []bool{true}},
		{"just to the Quota", impl.Store{Quota: 10, Blobs: manyBlobs(3), Next: 5}, []string{"1234"}, []bool{true}},
		{"a byte above the Quota", impl.Store{Quota: 9, Blobs: manyBlobs(3), Next: 5}, []string{"1234", "new", ""}, []bool{false, true, true}},
		{"an upload takes the room", impl.Store{Quota: 10, Blobs: manyBlobs(3), Uploads: manyUploads(1, "ab"), Next: 5}, []string{"new", "", "00"}, []bool{false, true, true}},
		{"there already", impl.Store{Quota: 8, Blobs: manyBlobs(3), Next: 5}, []string{"01", "01", "02"}, []bool{true, true, true}},
		{"there already, without room for it twice", impl.Store{Quota: 7, Blobs: manyBlobs(3), Next: 5}, []string{"01"}, []bool{false}},
		{"there since just now", impl.Store{Quota: 8, Next: 5}, []string{"1234", "1234", "new", "1234", "new"}, []bool{true, true, true, false, false}},
		{"the 60th", impl.Store{Quota: 200, Blobs: manyBlobs(59), Next: 5}, []string{"new", "1234", "", "03"}, []bool{true, false, false, true}},
		{"the 61st", impl.Store{Quota: 200, Blobs: manyBlobs(60), Next: 5}, []string{"new", "", "03"}, []bool{false, false, true}},
		{"beside nine uploads", impl.Store{Quota: 30, Uploads: manyUploads(9, "u"), Next: 10}, []string{"new", "03"}, []bool{true, true}},
		{"beside ten uploads", impl.Store{Quota: 30, Uploads: manyUploads(10, "u"), Next: 11}, []string{"new", ""}, []bool{false, false}},
		{"the last Id", impl.Store{Quota: 30, Next: impl.MaxNumber - 1}, []string{"new", "03"}, []bool{true, false}},
		{"no Id is left", impl.Store{Quota: 30, Next: impl.MaxNumber}, []string{"new", ""}, []bool{false, false}},
		{"what nobody has", impl.Store{Quota: 30, Next: 5}, []string{"none", "new", "none"}, []bool{false, true, false}},
	} {
		var plan []impl.Copy
		for _, data := range r.data {
			plan = append(plan, impl.Copy{Digest: digestOf(data), From: 7, To: 9})
		}
		got, done := checkCarry(t, r.what, []impl.Store{giving, r.to}, []int64{7, 9}, plan)
		if !slices.Equal(done, r.done) {
			t.Errorf("%s: done %v", r.what, done)
		}
		if !sameStore(got[0], giving) || got[1].Next != r.to.Next+countOf(r.done) || got[1].Quota != r.to.Quota || !slices.Equal(got[1].Uploads, r.to.Uploads) {
			t.Errorf("%s: %+v", r.what, got)
		}
	}
}

func TestRepairCarryToItself(t *testing.T) {
	for room, done := range map[int64]int64{0: 0, 1: 3, 5: 3} {
		stores := []impl.Store{storeWith("xy", room), storeWith("z", room)}
		got, list := checkCarry(t, "to itself", stores, []int64{3, 50}, copiesOf("x3>3 y3>3 z3>3 x50>50 z50>50"))
		if countOf(list) != done || len(got[0].Blobs) != 2 || len(got[1].Blobs) != 1 {
			t.Errorf("room %d: %+v, %v", room, got, list)
		}
	}
}

func TestRepairCarryOfDigestsThatAreNone(t *testing.T) {
	stores := storesWith("x/y", 9)
	for what, d := range noDigests(digestX) {
		plan := []impl.Copy{{Digest: d, From: 1, To: 2}, {Digest: digestX, From: 1, To: 2}, {Digest: d, From: 2, To: 1}}
		if got, done := checkCarry(t, what, stores, countUp(1, 2), plan); countOf(done) != 1 || len(got[1].Blobs) != 2 {
			t.Errorf("%s: %+v, %v", what, got, done)
		}
	}
}

func checkNotCarried(t *testing.T, what string, stores []impl.Store, nodes []int64, plan []impl.Copy) {
	t.Helper()
	if got, n, ok := impl.Carry(stores, nodes, plan); ok || n != 0 || len(got) != 0 {
		t.Errorf("%s: %+v, %d, %v", what, got, n, ok)
	}
}

func TestRepairCarryOfWrongArguments(t *testing.T) {
	nodes, can := []int64{1, 2, 9}, copiesOf("x1>2 x2>9")
	stores := storesWith("x/y/z", 9)
	checkCarry(t, "all is right", stores, nodes, can)
	for _, node := range []int64{0, 3, 8, 10, 50, 51, 63, 64, 65, 66, -1, 1<<32 + 1, math.MinInt64, math.MaxInt64} {
		for _, c := range []impl.Copy{{Digest: digestX, From: node, To: 1}, {Digest: digestX, From: 1, To: node}, {Digest: digestX, From: node, To: node}, {Digest: "", From: node, To: 2}} {
			for at := range len(can) + 1 {
				checkNotCarried(t, fmt.Sprintf("%+v at %d", c, at), stores, nodes, slices.Insert(slices.Clone(can), at, c))
			}
			checkNotCarried(t, fmt.Sprintf("%+v without nodes", c), nil, nil, []impl.Copy{c})
		}
	}
	for _, plan := range [][]impl.Copy{nil, can} {
		checkNotCarried(t, "one shorter", stores[:2], nodes, plan)
		checkNotCarried(t, "one longer", append(slices.Clone(stores), storeWith("x", 5)), nodes, plan)
		checkNotCarried(t, "no stores", nil, nodes, plan)
		for what, wrong := range wrongStores() {
			for place := range stores {
				list := slices.Clone(stores)
				list[place] = wrong
				checkNotCarried(t, fmt.Sprint("the store ", place, ": ", what), list, nodes, plan)
			}
		}
	}
	checkNotCarried(t, "stores without nodes", stores[:1], nil, nil)
	for what, list := range wrongNodeLists() {
		many := make([]impl.Store, len(list))
		for i := range many {
			many[i] = storeWith("x", 5)
		}
		checkNotCarried(t, what, many, list, nil)
		checkNotCarried(t, what, many, list, []impl.Copy{{Digest: digestX, From: list[0], To: list[len(list)-1]}})
	}
}

func TestRepairCarryOfMany(t *testing.T) {
	nodes := countUp(1, 4)
	stores := []impl.Store{{Quota: 200, Blobs: manyBlobs(60), Next: 1}, {Quota: 90, Next: 1}, {Quota: 200000, Uploads: manyUploads(9, "ab"), Next: 10}, {Quota: 200, Next: impl.MaxNumber - 20}}
	for name, copyAt := range map[string]func(i int) impl.Copy{
		"one again and again": func(int) impl.Copy { return impl.Copy{Digest: digestOf("07"), From: 1, To: 2} },
		"one handed round": func(i int) impl.Copy {
			return impl.Copy{Digest: digestOf("07"), From: int64(i%4) + 1, To: int64((i+1)%4) + 1}
		},
		"all to each": func(i int) impl.Copy {
			return impl.Copy{Digest: digestOf(fmt.Sprintf("%02d", i%60)), From: 1, To: int64(i/60%4) + 1}
		},
		"all handed on": func(i int) impl.Copy {
			return impl.Copy{Digest: digestOf(fmt.Sprintf("%02d", i*7%60)), From: int64(i*3%4) + 1, To: int64((i+i/9)%4) + 1}
		},
		"what nobody has": func(int) impl.Copy { return impl.Copy{Digest: digestOf("none"), From: 1, To: 2} },
	} {
		var plan []impl.Copy
		for i := range 2001 {
			plan = append(plan, copyAt(i))
		}
		checkCarry(t, name, stores, nodes, plan[:2000])
		checkNotCarried(t, name, stores, nodes, plan)
	}
}

func TestRepairCarryBetweenAllNodes(t *testing.T) {
	nodes := countUp(1, 50)
	var stores []impl.Store
	var have [][]string
	for range nodes {
		stores = append(stores, impl.Store{Quota: 1000, Next: 1})
	}
	var needed []string
	for i := range 60 {
		data := fmt.Sprint("blob ", i)
		stores[i*7%50], _ = impl.Keep(stores[i*7%50], data)
		needed = append(needed, digestOf(data))
	}
	slices.Sort(needed)
	for _, s := range stores {
		have = append(have, impl.DigestsOf(s))
	}
	plan, lost, ok := impl.Plan(needed, nodes, have, 7)
	if !ok || len(lost) != 0 {
		t.Fatal(lost, ok)
	}
	got, done := checkCarry(t, "all nodes", stores, nodes, plan)
	if countOf(done) != int64(len(plan)) {
		t.Errorf("%d of %d done", countOf(done), len(plan))
	}
	for _, d := range needed {
		for _, holder := range slowHolders(d, nodes, 7) {
			if _, there := impl.GetBlob(got[holder-1], d); !there {
				t.Errorf("%d has not got %s", holder, d)
			}
		}
	}
}

// A park is nodes with stores at random, and what is needed.
type park struct {
	nodes  []int64
	stores []impl.Store
	needed []string
	k      int64
}

func randomPark(r *rand.Rand, roomy bool) park {
	p := park{k: 1 + r.Int64N(7)}
	apart := pick(r, 6, 6, 12, 30)
	for node := int64(1); node <= 50 && len(p.nodes) < 9; node++ {
		if r.IntN(apart) == 0 {
			p.nodes = append(p.nodes, node)
		}
	}
	chance := 1 + r.IntN(8)
	for range p.nodes {
		s := impl.Store{Quota: 200, Next: 1 + r.Int64N(5)}
		for i := range 12 {
			if r.IntN(chance) == 0 {
				s.Blobs = append(s.Blobs, blobOf(i))
			}
		}
		slices.SortFunc(s.Blobs, func(a, b impl.Blob) int { return strings.Compare(a.Digest, b.Digest) })
		if !roomy {
			s.Uploads = manyUploads(r.IntN(int(s.Next)), "u")
			s.Quota = impl.UsedBy(s) + r.Int64N(8)
			s.Next = pick(r, s.Next, s.Next, s.Next, impl.MaxNumber-r.Int64N(3))
		}
		p.stores = append(p.stores, s)
	}
	for i := range 12 {
		if r.IntN(3) > 0 {
			p.needed = append(p.needed, blobOf(i).Digest)
		}
	}
	slices.Sort(p.needed)
	return p
}

// blobOf is the blob number i of twelve, the first one empty, the last one of six bytes.
func blobOf(i int) impl.Blob {
	return blobsOf(strings.Repeat("abcdefghijkl"[i:i+1], (i+1)/2))[0]
}

func (p park) have() [][]string {
	have := [][]string{}
	for _, s := range p.stores {
		have = append(have, impl.DigestsOf(s))
	}
	return have
}

func (p park) plan(t *testing.T) ([]impl.Copy, []string) {
	t.Helper()
	plan, lost, ok := impl.Plan(p.needed, p.nodes, p.have(), p.k)
	wantPlan, wantLost := slowPlan(p.needed, p.nodes, p.have(), p.k)
	if !ok || !slices.Equal(plan, wantPlan) || !slices.Equal(lost, wantLost) {
		t.Fatalf("%+v: %+v, %q, %v; not %+v, %q", p, plan, lost, ok, wantPlan, wantLost)
	}
	return plan, lost
}

func (p park) spare(t *testing.T) []impl.Copy {
	t.Helper()
	spare, ok := impl.Spare(p.needed, p.nodes, p.have(), p.k)
	if want := slowSpare(p.needed, p.nodes, p.have(), p.k); !ok || !slices.Equal(spare, want) {
		t.Fatalf("%+v: spare %+v, %v; not %+v", p, spare, ok, want)
	}
	return spare
}

func (p park) has(node int64, d string) bool {
	_, there := impl.GetBlob(p.stores[slices.Index(p.nodes, node)], d)
	return there
}

func (p park) somebodyHas(d string) bool {
	return slices.ContainsFunc(p.nodes, func(node int64) bool { return p.has(node, d) })
}

// checkHeld: all holders have each needed blob that is not lost, and the lost ones are those that nobody has.
func (p park) checkHeld(t *testing.T, lost []string) {
	t.Helper()
	for _, d := range p.needed {
		if p.somebodyHas(d) == slices.Contains(lost, d) {
			t.Errorf("%s: lost %v", d, slices.Contains(lost, d))
		}
		holders, _ := impl.Holders(d, p.nodes, p.k)
		for _, holder := range holders {
			if !slices.Contains(lost, d) && !p.has(holder, d) {
				t.Errorf("%d has not got %s", holder, d)
			}
		}
	}
}

// checkSpare: what is spare is needed, lies where it need not, and all its holders have it.
func (p park) checkSpare(t *testing.T, spare []impl.Copy) {
	t.Helper()
	for _, c := range spare {
		holders, _ := impl.Holders(c.Digest, p.nodes, p.k)
		if c.From != c.To || !p.has(c.To, c.Digest) || !slices.Contains(p.needed, c.Digest) || slices.Contains(holders, c.To) {
			t.Errorf("%+v is spare", c)
		}
		for _, holder := range holders {
			if !p.has(holder, c.Digest) {
				t.Errorf("%+v is spare, and %d has not got it", c, holder)
			}
		}
	}
}

// Behind a repair between stores with room all is where it belongs, nothing more has to be copied, and what is spare can go.
func TestRepairOfParks(t *testing.T) {
	r := rand.New(rand.NewPCG(14, 14))
	seen := map[string]int{}
	for range 200 {
		p := randomPark(r, true)
		plan, lost := p.plan(t)
		p.checkSpare(t, p.spare(t))
		stores, done := checkCarry(t, "with room", p.stores, p.nodes, plan)
		if countOf(done) != int64(len(plan)) {
			t.Fatalf("%+v: %v done of %+v", p, done, plan)
		}
		then := p
		then.stores = stores
		then.checkHeld(t, lost)
		more, still := then.plan(t)
		if len(more) != 0 || !slices.Equal(still, lost) {
			t.Errorf("%+v: then %+v, %q", p, more, still)
		}
		spare := then.spare(t)
		then.checkSpare(t, spare)
		then.stores = slices.Clone(then.stores)
		for _, c := range spare {
			at := slices.Index(then.nodes, c.To)
			then.stores[at], _ = impl.DropBlob(then.stores[at], c.Digest)
		}
		then.checkHeld(t, lost)
		if more, _ := then.plan(t); len(more)+len(then.spare(t)) != 0 {
			t.Errorf("%+v: without what was spare %+v", p, more)
		}
		for what, is := range map[string]bool{"plan": len(plan) > 0, "nothing to do": len(plan) == 0, "lost": len(lost) > 0, "spare": len(spare) > 0, "no nodes": len(p.nodes) == 0} {
			if is {
				seen[what]++
			}
		}
	}
	if seen["plan"] < 20 || seen["nothing to do"] == 0 || seen["lost"] < 20 || seen["spare"] < 20 || seen["no nodes"] == 0 {
		t.Error(seen)
	}
}

// Where there is little room, and blobs are handed on, the copies are done as if one behind the other.
func TestRepairCarryAgainstTheSlowWay(t *testing.T) {
	r := rand.New(rand.NewPCG(14, 41))
	done, left, handedOn := 0, 0, 0
	for range 1200 {
		p := randomPark(r, r.IntN(4) == 0)
		if len(p.nodes) == 0 {
			continue
		}
		var plan []impl.Copy
		for range r.IntN(40) {
			c := impl.Copy{Digest: blobOf(r.IntN(12)).Digest, From: pick(r, p.nodes...), To: pick(r, p.nodes...)}
			if len(plan) > 0 && r.IntN(2) == 0 {
				c.Digest, c.From = plan[len(plan)-1].Digest, plan[len(plan)-1].To
			}
			plan = append(plan, c)
		}
		_, list := checkCarry(t, "at random", p.stores, p.nodes, plan)
		for i, c := range plan {
			switch {
			case !list[i]:
				left++
			case !p.has(c.From, c.Digest):
				handedOn++
			default:
				done++
			}
		}
	}
	if done < 1000 || left < 1000 || handedOn < 500 {
		t.Error(done, left, handedOn)
	}
}

func TestRepairSurveysAgainstTheSlowWay(t *testing.T) {
	r := rand.New(rand.NewPCG(41, 14))
	refused := 0
	for range 300 {
		p := randomPark(r, true)
		have := p.have()
		switch r.IntN(10) {
		case 0:
			p.k = pick(r, wrongCounts...)
		case 1:
			p.nodes = slices.Insert(p.nodes, r.IntN(len(p.nodes)+1), pick(r, append(countUp(1, 50), oddNumbers...)...))
			have = append(have, lettersOf("x"))
		case 2:
			p.needed = slices.Insert(p.needed, r.IntN(len(p.needed)+1), pick(r, append(manyDigests(9), "", "x")...))
		case 3:
			have = slices.Insert(have, r.IntN(len(have)+1), lettersOf("xy"))
		case 4:
			if len(have) > 0 {
				have[r.IntN(len(have))] = pick(r, []string{digestY, digestX}, []string{""}, xzy(), nil)
			}
		}
		right := slowArgumentsOk(p.needed, p.nodes, have, p.k)
		if !right {
			refused++
			checkSurvey(t, fmt.Sprintf("%+v", p), p.needed, p.nodes, have, p.k, false)
			continue
		}
		plan, lost, ok := impl.Plan(p.needed, p.nodes, have, p.k)
		if wantPlan, wantLost := slowPlan(p.needed, p.nodes, have, p.k); !ok || !slices.Equal(plan, wantPlan) || !slices.Equal(lost, wantLost) {
			t.Fatalf("%+v: %+v, %q, %v", p, plan, lost, ok)
		}
		if spare, ok := impl.Spare(p.needed, p.nodes, have, p.k); !ok || !slices.Equal(spare, slowSpare(p.needed, p.nodes, have, p.k)) {
			t.Fatalf("%+v: spare %+v, %v", p, spare, ok)
		}
	}
	if refused < 30 {
		t.Error(refused)
	}
}

func TestRepairSurveysOfWholeSets(t *testing.T) {
	nodes, needed := countUp(1, 50), manyDigests(200)
	r := rand.New(rand.NewPCG(200, 14))
	for _, chance := range []int{1, 2, 9, 120} {
		var have [][]string
		for range nodes {
			have = append(have, slices.DeleteFunc(manyDigests(200), func(string) bool { return r.IntN(chance) > 0 }))
		}
		plan, lost, ok := impl.Plan(needed, nodes, have, 7)
		if wantPlan, wantLost := slowPlan(needed, nodes, have, 7); !ok || !slices.Equal(plan, wantPlan) || !slices.Equal(lost, wantLost) {
			t.Errorf("by %d: %d copies, not %d, %d lost, not %d, %v", chance, len(plan), len(wantPlan), len(lost), len(wantLost), ok)
		}
		if len(plan) > impl.MaxCopies {
			t.Errorf("by %d: %d copies", chance, len(plan))
		}
		spare, ok := impl.Spare(needed[:150], nodes, have, 1)
		if want := slowSpare(needed[:150], nodes, have, 1); !ok || !slices.Equal(spare, want) {
			t.Errorf("by %d: %d spare, not %d, %v", chance, len(spare), len(want), ok)
		}
	}
	if impl.MaxCopies != 2000 {
		t.Error(impl.MaxCopies)
	}
}

// However many goroutines run at a time, and however many calls beside one another, the answer is the same one.
func TestRepairCarryIsTheSameEachTime(t *testing.T) {
	r := rand.New(rand.NewPCG(7, 14))
	defer runtime.GOMAXPROCS(runtime.GOMAXPROCS(0))
	for range 12 {
		p := randomPark(r, false)
		if len(p.nodes) == 0 {
			continue
		}
		var plan []impl.Copy
		for range 60 {
			plan = append(plan, impl.Copy{Digest: blobOf(r.IntN(12)).Digest, From: pick(r, p.nodes...), To: pick(r, p.nodes...)})
		}
		want, done := slowCarry(p.stores, p.nodes, plan)
		for _, most := range []int{1, 2, 3, 8} {
			runtime.GOMAXPROCS(most)
			same := make([]bool, 16)
			var calls sync.WaitGroup
			for i := range same {
				calls.Go(func() {
					got, n, ok := impl.Carry(p.stores, p.nodes, plan)
					same[i] = ok && n == countOf(done) && sameStores(got, want)
				})
			}
			calls.Wait()
			if slices.Contains(same, false) {
				t.Fatalf("%d at a time: another answer", most)
			}
		}
	}
}

func TestRepairCarryLeavesNobodyRunning(t *testing.T) {
	before := runtime.NumGoroutine()
	for range 50 {
		impl.Carry(storesWith("x///", 5), countUp(1, 4), copiesOf("x1>2 x2>3 x3>4"))
	}
	for range 500 {
		if runtime.NumGoroutine() <= before {
			return
		}
		time.Sleep(10 * time.Millisecond)
	}
	t.Errorf("%d goroutines, %d ahead of it", runtime.NumGoroutine(), before)
}

// shallowPart is a list of things with lists in them; these are parts of their own.
func shallowPart[T any](what string, list []T, same func(a, b T) bool, fill T) part {
	before := slices.Clone(withRoom(list))
	return part{watch{what, func() bool { return slices.EqualFunc(withRoom(list), before, same) }}, func() { scribble(list, fill) }}
}

func sameList[T any](a, b []T) bool {
	return len(a) == len(b) && cap(a) == cap(b) && unsafe.SliceData(a) == unsafe.SliceData(b)
}

func partsOfStores(what string, stores []impl.Store) []part {
	var parts []part
	for i, s := range stores {
		parts = append(parts, partOf(fmt.Sprint("Blobs of ", what, " ", i), s.Blobs, impl.Blob{Digest: "changed"}))
		parts = append(parts, partOf(fmt.Sprint("Uploads of ", what, " ", i), s.Uploads, impl.Upload{Id: -9}))
	}
	return append(parts, shallowPart(what, stores, func(a, b impl.Store) bool {
		return a.Quota == b.Quota && a.Next == b.Next && sameList(a.Blobs, b.Blobs) && sameList(a.Uploads, b.Uploads)
	}, impl.Store{Quota: -9}))
}

// A repairAnswer is what a call of chapter 14 answers.
type repairAnswer struct {
	stores []impl.Store
	copies []impl.Copy
	lost   []string
	done   int64
	ok     bool
}

func (a repairAnswer) parts() []part {
	parts := []part{partOf("the copies", a.copies, impl.Copy{Digest: "changed"}), partOf("the lost", a.lost, "changed")}
	return append(parts, partsOfStores("the stores", a.stores)...)
}

func (a repairAnswer) clone() repairAnswer {
	var stores []impl.Store
	for _, s := range a.stores {
		stores = append(stores, copyStore(s))
	}
	return repairAnswer{stores, slices.Clone(a.copies), slices.Clone(a.lost), a.done, a.ok}
}

func (a repairAnswer) same(b repairAnswer) bool {
	return a.ok == b.ok && a.done == b.done && slices.Equal(a.copies, b.copies) && slices.Equal(a.lost, b.lost) && sameStores(a.stores, b.stores)
}

func TestRepairSurveyAnswersAreTheirOwn(t *testing.T) {
	for _, text := range []string{"", "////", "xy/xz/y/z/", "xzy/xzy/xzy/xzy/xzy", "////xzy", "x/xz//y/", "y/xz/y//w"} {
		have := roomy(haves(text), []string{"spare"})
		var parts []part
		for i, list := range have {
			have[i] = roomy(list, "spare")
			parts = append(parts, partOf(fmt.Sprint("have ", i), have[i], "changed"))
		}
		nodes, needed := roomy(countUp(1, 5), 99), roomy(xzy(), "spare")
		parts = append(parts, partOf("the nodes", nodes, -9), partOf("the needed", needed, "changed"), shallowPart("have", have, sameList, nil))
		for _, k := range []int64{0, 1, 2, 7} {
			checkOwn(t, fmt.Sprint("Plan of ", text, ", ", k), parts, func() repairAnswer {
				plan, lost, ok := impl.Plan(needed, nodes, have, k)
				return repairAnswer{copies: plan, lost: lost, ok: ok}
			})
			checkOwn(t, fmt.Sprint("Spare of ", text, ", ", k), parts, func() repairAnswer {
				spare, ok := impl.Spare(needed, nodes, have, k)
				return repairAnswer{copies: spare, ok: ok}
			})
		}
	}
}

func TestRepairCarryAnswersAreTheirOwn(t *testing.T) {
	full := impl.Store{Quota: 300, Blobs: manyBlobs(59), Uploads: manyUploads(4, "ab"), Next: 5}
	for what, list := range map[string][]impl.Store{
		"few": storesWith("x/y//xyz", 5), "without room": storesWith("xy/z/x/", 0), "full ones": {storeWith("xyz", 5), full, full, storeWith("", 9)},
		"the same one": {full, full, full, full}, "a wrong one": {storeWith("x", 5), {}, storeWith("y", 5), storeWith("z", 5)}, "three": storesWith("x/y/z", 5),
	} {
		stores := roomy(list, impl.Store{Quota: 77})
		for i := range stores {
			stores[i] = roomyStore(stores[i])
		}
		nodes := roomy(countUp(1, 4), 99)
		for _, text := range []string{"", "x1>2", "x1>2 x2>3 x3>4", "x1>2 y1>2 x1>3 z2>1 y2>4 x4>4", "x1>5", "x1>2 x1>51"} {
			plan := roomy(copiesOf(text), impl.Copy{Digest: "spare"})
			parts := append(partsOfStores("the argument's stores", stores), partOf("the nodes", nodes, -9), partOf("the plan", plan, impl.Copy{Digest: "changed"}))
			checkOwn(t, "Carry of "+what+" by "+text, parts, func() repairAnswer {
				got, done, ok := impl.Carry(stores, nodes, plan)
				return repairAnswer{stores: got, done: done, ok: ok}
			})
		}
	}
}
