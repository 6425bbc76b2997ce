package tests

import (
	"crypto/sha256"
	"encoding/binary"
	"fmt"
	"math"
	"math/rand/v2"
	"slices"
	"strings"
	"testing"

	"loop.example/g00141/impl"
)

// The slow way of chapter 13: written from the document's words, beside the program.

func slowNodesOk(nodes []int64) bool {
	for i, node := range nodes {
		if node < 1 || node > 50 || i > 0 && nodes[i-1] >= node {
			return false
		}
	}
	return len(nodes) <= 50
}

func slowSetOk(list []string) bool {
	for i, d := range list {
		if !digestForm.MatchString(d) || i > 0 && list[i-1] >= d {
			return false
		}
	}
	return len(list) <= 200
}

func slowWeight(digest string, node int64) uint64 {
	sum := sha256.Sum256([]byte(digest + "\x00" + fmt.Sprint(node)))
	return binary.BigEndian.Uint64(sum[:])
}

// slowRanked takes out the heaviest, the first of those that are as heavy, until there is none.
func slowRanked(digest string, nodes []int64) []int64 {
	weights := map[int64]uint64{}
	for _, node := range nodes {
		weights[node] = slowWeight(digest, node)
	}
	var ranks []int64
	left := slices.Clone(nodes)
	for len(left) > 0 {
		best := 0
		for i := range left {
			if weights[left[i]] > weights[left[best]] {
				best = i
			}
		}
		ranks = append(ranks, left[best])
		left = slices.Delete(left, best, best+1)
	}
	return ranks
}

func slowHolders(digest string, nodes []int64, k int64) []int64 {
	ranks := slowRanked(digest, nodes)
	return slices.Sorted(slices.Values(ranks[:min(len(ranks), int(k))]))
}

func slowMoves(digests []string, before, after []int64, k int64) []impl.Copy {
	var moves []impl.Copy
	for _, d := range digests {
		from := int64(0)
		if len(before) > 0 {
			from = slowRanked(d, before)[0]
		}
		old := slowHolders(d, before, k)
		for _, to := range slowHolders(d, after, k) {
			if !slices.Contains(old, to) {
				moves = append(moves, impl.Copy{Digest: d, From: from, To: to})
			}
		}
	}
	return moves
}

func slowLoads(digests []string, nodes []int64, k int64) []int64 {
	loads := make([]int64, len(nodes))
	for _, d := range digests {
		for _, holder := range slowHolders(d, nodes, k) {
			loads[slices.Index(nodes, holder)]++
		}
	}
	return loads
}

// wrongNodeLists are lists that are no nodes, each for one cause.
func wrongNodeLists() map[string][]int64 {
	all := countUp(1, 50)
	return map[string][]int64{
		"0": {0}, "51": {51}, "-1": {-1}, "0 ahead of others": {0, 1, 2}, "51 behind others": {1, 50, 51}, "0 behind others": {1, 2, 0},
		"63": {63}, "64": {64}, "65": {1, 65}, "129": {129}, "of another size": {1<<32 + 1}, "the least number": {math.MinInt64}, "the greatest": {math.MaxInt64},
		"the least number behind one": {3, math.MinInt64}, "the greatest behind one": {3, math.MaxInt64},
		"falling": {2, 1}, "falling at the end": {1, 3, 2}, "falling at first": {2, 1, 3}, "all turned round": {5, 4, 3, 2, 1},
		"one twice": {1, 1}, "the last one twice": {1, 2, 2}, "the first one twice": {1, 1, 2}, "one twice, not side by side": {1, 2, 1}, "50 twice": {50, 50},
		"0 .. 50": countUp(0, 51), "1 .. 51": countUp(1, 51), "all and 50": append(slices.Clone(all), 50), "all and 1": append(slices.Clone(all), 1),
		"1 and all": append([]int64{1}, all...), "all, one of them turned": append(append([]int64{}, all[1:]...), 1), "0 many times": make([]int64, 51),
	}
}

func rightNodeLists() map[string][]int64 {
	return map[string][]int64{
		"none": nil, "an empty list": {}, "the least": {1}, "the greatest": {50}, "one": {7}, "two": {1, 50}, "three": {1, 2, 3}, "five": {1, 2, 3, 4, 5},
		"6": countUp(9, 6), "7": countUp(4, 7), "8": countUp(43, 8), "49": countUp(1, 49), "the other 49": countUp(2, 49), "all": countUp(1, 50),
		"with gaps": {2, 9, 10, 11, 19, 21, 33, 40, 49},
	}
}

var wrongCounts = []int64{0, 8, -1, -7, 9, 50, 57, 1 << 32, 1<<32 + 1, 1<<32 + 7, math.MinInt64, math.MinInt64 + 1, math.MaxInt64}

// The digests of x, z and y rise in this order; among 1 .. 5 the ranks are 2 1 3 4 5 of x, 2 4 5 3 1 of z and 3 1 4 5 2 of y.
var (
	digestX = digestOf("x")
	digestY = digestOf("y")
	digestZ = digestOf("z")
)

func xzy() []string {
	return []string{digestX, digestZ, digestY}
}

// copiesOf reads copies that are told as "x2>4 y0>1": the blob, from where, to where.
func copiesOf(text string) []impl.Copy {
	var list []impl.Copy
	for word := range strings.FieldsSeq(text) {
		var c impl.Copy
		if n, err := fmt.Sscanf(word[1:], "%d>%d", &c.From, &c.To); n != 2 || err != nil {
			panic(word)
		}
		c.Digest = digestOf(word[:1])
		list = append(list, c)
	}
	return list
}

func TestPlacementWeights(t *testing.T) {
	for _, r := range []struct {
		digest string
		node   int64
		want   uint64
	}{
		{digestX, 1, 0x90714a3d1842ff65}, {digestX, 2, 0xdb5ce643428075dc}, {digestX, 9, 0x1fd3f9d24c820a98}, {digestX, 10, 0xdc019a09fe5e0d1f},
		{digestX, 49, 0x8b43717b4fac10b2}, {digestX, 50, 0x389774747fd3a045}, {digestY, 1, 0x9edf446e12b34801}, {digestY, 50, 0x53631b8b436e483d},
		{digestZ, 9, 0xbd8a9760410f2551}, {digestZ, 10, 0x383d6b52c95da0ff},
	} {
		if got, ok := impl.WeightOf(r.digest, r.node); got != r.want || !ok {
			t.Errorf("%s at %d: %x, %v", r.digest, r.node, got, ok)
		}
	}
	for _, d := range append(manyDigests(10), digitsOf("0"), "sha256:"+strings.Repeat("f", 64)) {
		for node := int64(1); node <= 50; node++ {
			if got, ok := impl.WeightOf(d, node); got != slowWeight(d, node) || got != impl.Mixed(d, fmt.Sprint(node)) || !ok {
				t.Errorf("%s at %d: %x, %v", d, node, got, ok)
			}
		}
	}
}

func TestPlacementWeightsThatAreNone(t *testing.T) {
	for node, right := range nodeNumbers {
		if got, ok := impl.WeightOf(digestX, node); ok != right || !ok && got != 0 {
			t.Errorf("node %d: %x, %v", node, got, ok)
		}
	}
	for what, d := range noDigests(digitsOf("5b")) {
		for _, node := range []int64{0, 1, 9, 10, 50, 51, math.MinInt64} {
			if got, ok := impl.WeightOf(d, node); got != 0 || ok {
				t.Errorf("%s at %d: %x, %v", what, node, got, ok)
			}
		}
	}
}

func checkRanked(t *testing.T, what, digest string, nodes []int64) {
	t.Helper()
	got, ok := impl.Ranked(digest, nodes)
	if !ok || !slices.Equal(got, slowRanked(digest, nodes)) {
		t.Fatalf("%s of %s: %v, %v", what, digest, got, ok)
	}
	if sorted := slices.Sorted(slices.Values(got)); !slices.Equal(sorted, nodes) {
		t.Errorf("%s of %s: other nodes: %v", what, digest, got)
	}
	for i := 1; i < len(got); i++ {
		ahead, _ := impl.WeightOf(digest, got[i-1])
		behind, _ := impl.WeightOf(digest, got[i])
		if ahead < behind || ahead == behind && got[i-1] > got[i] {
			t.Errorf("%s of %s: %d is ahead of %d", what, digest, got[i-1], got[i])
		}
	}
}

func TestPlacementRanks(t *testing.T) {
	for _, r := range []struct {
		digest      string
		nodes, want []int64
	}{
		{digestX, nil, nil}, {digestX, []int64{1}, []int64{1}}, {digestX, []int64{50}, []int64{50}},
		{digestX, countUp(1, 5), []int64{2, 1, 3, 4, 5}}, {digestZ, countUp(1, 5), []int64{2, 4, 5, 3, 1}}, {digestY, countUp(1, 5), []int64{3, 1, 4, 5, 2}},
		{digestX, countUp(1, 10), []int64{10, 2, 6, 8, 7, 1, 3, 4, 9, 5}}, {digestX, []int64{1, 4, 5, 9, 10}, []int64{10, 1, 4, 9, 5}},
		{digestZ, countUp(1, 50), []int64{45, 24, 18, 47, 17, 49, 32, 2, 7, 27, 30, 9, 22, 11, 34, 19, 8, 33, 14, 31, 23, 21, 4, 28, 12, 43, 16, 46, 39, 42, 50, 37, 40, 25, 26, 20, 5, 15, 10, 3, 41, 38, 44, 36, 48, 35, 13, 1, 29, 6}},
	} {
		if got, ok := impl.Ranked(r.digest, r.nodes); !ok || !slices.Equal(got, r.want) {
			t.Errorf("%v of %s: %v, %v", r.nodes, r.digest, got, ok)
		}
	}
	for what, nodes := range rightNodeLists() {
		for _, d := range append(manyDigests(8), digitsOf("0"), "sha256:"+strings.Repeat("f", 64)) {
			checkRanked(t, what, d, nodes)
		}
	}
}

func TestPlacementHolders(t *testing.T) {
	for _, r := range []struct {
		digest string
		nodes  []int64
		k      int64
		want   []int64
	}{
		{digestX, nil, 1, nil}, {digestX, nil, 7, nil}, {digestX, []int64{9}, 1, []int64{9}}, {digestX, []int64{9}, 7, []int64{9}},
		{digestZ, countUp(1, 5), 1, []int64{2}}, {digestZ, countUp(1, 5), 2, []int64{2, 4}}, {digestZ, countUp(1, 5), 3, []int64{2, 4, 5}},
		{digestZ, countUp(1, 5), 4, []int64{2, 3, 4, 5}}, {digestZ, countUp(1, 5), 5, countUp(1, 5)}, {digestZ, countUp(1, 5), 6, countUp(1, 5)}, {digestZ, countUp(1, 5), 7, countUp(1, 5)},
		{digestX, countUp(1, 6), 7, countUp(1, 6)}, {digestX, countUp(1, 7), 7, countUp(1, 7)}, {digestX, countUp(1, 10), 7, []int64{1, 2, 3, 6, 7, 8, 10}},
		{digestZ, countUp(1, 50), 7, []int64{17, 18, 24, 32, 45, 47, 49}}, {digestZ, countUp(1, 50), 1, []int64{45}},
	} {
		if got, ok := impl.Holders(r.digest, r.nodes, r.k); !ok || !slices.Equal(got, r.want) {
			t.Errorf("%d of %v of %s: %v, %v", r.k, r.nodes, r.digest, got, ok)
		}
	}
	for what, nodes := range rightNodeLists() {
		for k := int64(1); k <= 7; k++ {
			for _, d := range manyDigests(5) {
				got, ok := impl.Holders(d, nodes, k)
				if !ok || len(got) != min(int(k), len(nodes)) || !slowNodesOk(got) || !slices.Equal(got, slowHolders(d, nodes, k)) {
					t.Errorf("%d of %s of %s: %v, %v", k, what, d, got, ok)
				}
			}
		}
	}
}

func TestPlacementMovesByHand(t *testing.T) {
	one := []string{digestZ}
	for _, r := range []struct {
		what          string
		digests       []string
		before, after []int64
		k             int64
		want          string
	}{
		{"no digest", nil, countUp(1, 3), countUp(3, 3), 2, ""},
		{"the same nodes", xzy(), countUp(1, 5), countUp(1, 5), 2, ""},
		{"the same node", xzy(), []int64{7}, []int64{7}, 7, ""},
		{"no nodes at all", xzy(), nil, nil, 3, ""},
		{"one new", xzy(), countUp(1, 3), countUp(1, 4), 2, "z2>4"},
		{"one new, three holders", xzy(), countUp(1, 3), countUp(1, 4), 3, "z2>4 y3>4"},
		{"one new, all holders", xzy(), countUp(1, 3), countUp(1, 4), 7, "x2>4 z2>4 y3>4"},
		{"one new that holds nothing", xzy(), countUp(1, 4), countUp(1, 5), 2, ""},
		{"one gone", xzy(), countUp(1, 5), []int64{1, 3, 4, 5}, 2, "x2>3 z2>5"},
		{"one gone, all holders", xzy(), countUp(1, 5), []int64{1, 3, 4, 5}, 5, ""},
		{"one gone that holds nothing", one, countUp(1, 5), countUp(2, 4), 2, ""},
		{"one gone, one new", one, countUp(1, 3), []int64{1, 3, 4}, 1, "z2>4"},
		{"none in common", xzy(), []int64{1, 2}, countUp(3, 3), 2, "x2>3 x2>4 z2>4 z2>5 y1>3 y1>4"},
		{"none ahead", xzy(), nil, countUp(1, 5), 2, "x0>1 x0>2 z0>2 z0>4 y0>1 y0>3"},
		{"none ahead, one then", xzy(), nil, []int64{50}, 7, "x0>50 z0>50 y0>50"},
		{"none then", xzy(), countUp(1, 5), nil, 2, ""},
		{"one digest of the 50", one, countUp(1, 5), countUp(1, 50), 1, "z2>45"},
		{"one digest of seven of the 50", one, countUp(1, 5), countUp(1, 50), 7, "z2>17 z2>18 z2>24 z2>32 z2>45 z2>47 z2>49"},
	} {
		if got, ok := impl.Moves(r.digests, r.before, r.after, r.k); !ok || !slices.Equal(got, copiesOf(r.want)) {
			t.Errorf("%s: %+v, %v", r.what, got, ok)
		}
	}
}

func TestPlacementLoadsByHand(t *testing.T) {
	for _, r := range []struct {
		digests []string
		nodes   []int64
		k       int64
		want    []int64
	}{
		{nil, nil, 1, nil}, {xzy(), nil, 2, nil}, {nil, countUp(1, 3), 2, []int64{0, 0, 0}}, {xzy(), []int64{9}, 1, []int64{3}},
		{xzy(), countUp(1, 5), 1, []int64{0, 2, 1, 0, 0}}, {xzy(), countUp(1, 5), 2, []int64{2, 2, 1, 1, 0}}, {xzy(), countUp(1, 5), 3, []int64{2, 2, 2, 2, 1}},
		{xzy(), countUp(1, 5), 7, []int64{3, 3, 3, 3, 3}}, {xzy(), []int64{1, 4, 5}, 1, []int64{2, 1, 0}}, {[]string{digestY}, []int64{2, 5}, 1, []int64{0, 1}},
	} {
		if got, ok := impl.Loads(r.digests, r.nodes, r.k); !ok || !slices.Equal(got, r.want) {
			t.Errorf("%d of %v: %v, %v", r.k, r.nodes, got, ok)
		}
	}
}

func TestPlacementOfWholeSets(t *testing.T) {
	for _, n := range []int{1, 199, 200} {
		set := manyDigests(n)
		for what, nodes := range map[string][]int64{"all": countUp(1, 50), "with gaps": rightNodeLists()["with gaps"], "two": {1, 50}, "none": nil} {
			for _, k := range []int64{1, 3, 7} {
				loads, ok := impl.Loads(set, nodes, k)
				if !ok || !slices.Equal(loads, slowLoads(set, nodes, k)) {
					t.Errorf("%s, %d: loads %v, %v", what, k, loads, ok)
				}
				sum := int64(0)
				for _, load := range loads {
					sum += load
				}
				if want := int64(n) * min(k, int64(len(nodes))); sum != want {
					t.Errorf("%s, %d: %d loads together, not %d", what, k, sum, want)
				}
				moves, ok := impl.Moves(set, countUp(10, 5), nodes, k)
				if !ok || !slices.Equal(moves, slowMoves(set, countUp(10, 5), nodes, k)) {
					t.Errorf("%s, %d: %d moves, %v", what, k, len(moves), ok)
				}
			}
		}
	}
}

// One node more takes from each blob one holder at most, and takes its place; and what is moved is moved to it alone.
func TestPlacementOfOneNodeMore(t *testing.T) {
	r := rand.New(rand.NewPCG(13, 13))
	digests := manyDigests(60)
	seen := map[string]int{}
	for range 25 {
		nodes := randomNodes(r)
		fresh := pick(r, slices.DeleteFunc(countUp(1, 50), func(n int64) bool { return slices.Contains(nodes, n) })...)
		more := slices.Sorted(slices.Values(append(slices.Clone(nodes), fresh)))
		k := 1 + r.Int64N(7)
		for _, d := range digests {
			before, _ := impl.Holders(d, nodes, k)
			after, ok := impl.Holders(d, more, k)
			moves, moved := impl.Moves([]string{d}, nodes, more, k)
			if !ok || !moved {
				t.Fatal(nodes, more, k)
			}
			gone := slices.DeleteFunc(slices.Clone(before), func(n int64) bool { return slices.Contains(after, n) })
			comers := slices.DeleteFunc(slices.Clone(after), func(n int64) bool { return slices.Contains(before, n) })
			if len(gone) > 1 || len(comers) > 1 || len(gone) > len(comers) || len(comers) == 1 && comers[0] != fresh {
				t.Errorf("%d of %v and %d: %v, then %v", k, nodes, fresh, before, after)
			}
			if len(comers) == 1 && len(nodes) >= int(k) && len(gone) != 1 {
				t.Errorf("%d of %v and %d: nobody goes", k, nodes, fresh)
			}
			if len(moves) != len(comers) || len(moves) == 1 && moves[0].To != fresh {
				t.Errorf("%d of %v and %d: moves %+v", k, nodes, fresh, moves)
			}
			back, _ := impl.Moves([]string{d}, more, nodes, k)
			if len(back) != len(gone) || len(back) == 1 && back[0].To != gone[0] {
				t.Errorf("%d of %v and %d: moves back %+v", k, nodes, fresh, back)
			}
			seen[fmt.Sprint(len(gone), len(comers))]++
		}
	}
	if seen["0 0"] == 0 || seen["1 1"] == 0 || seen["0 1"] == 0 {
		t.Error(seen)
	}
}

// randomNodes are at most 49, so that there is one more.
func randomNodes(r *rand.Rand) []int64 {
	var nodes []int64
	chance := pick(r, 2, 3, 6, 12, 30)
	for node := int64(1); node <= 50 && len(nodes) < 49; node++ {
		if r.IntN(chance) == 0 {
			nodes = append(nodes, node)
		}
	}
	return nodes
}

func TestPlacementAgainstTheSlowWay(t *testing.T) {
	r := rand.New(rand.NewPCG(13, 31))
	refused := 0
	for range 400 {
		set := manyDigests(r.IntN(6))
		before, after := randomNodes(r), randomNodes(r)
		k := 1 + r.Int64N(7)
		switch r.IntN(12) {
		case 0:
			k = pick(r, wrongCounts...)
		case 1:
			before = slices.Insert(before, r.IntN(len(before)+1), pick(r, oddNumbers...))
		case 2:
			after = slices.Insert(after, r.IntN(len(after)+1), pick(r, oddNumbers...))
		case 3:
			set = slices.Insert(set, r.IntN(len(set)+1), pick(r, append(manyDigests(9), "", "x")...))
		}
		kOk, beforeOk, afterOk, setOk := k >= 1 && k <= 7, slowNodesOk(before), slowNodesOk(after), slowSetOk(set)
		var wantMoves []impl.Copy
		var wantLoads []int64
		if kOk && beforeOk && afterOk && setOk {
			wantMoves = slowMoves(set, before, after, k)
		} else {
			refused++
		}
		if kOk && afterOk && setOk {
			wantLoads = slowLoads(set, after, k)
		}
		moves, ok := impl.Moves(set, before, after, k)
		if ok != (kOk && beforeOk && afterOk && setOk) || !slices.Equal(moves, wantMoves) {
			t.Fatalf("%d of %v and %v: %+v, %v", k, before, after, moves, ok)
		}
		loads, ok := impl.Loads(set, after, k)
		if ok != (kOk && afterOk && setOk) || !slices.Equal(loads, wantLoads) {
			t.Fatalf("%d of %v: %+v, %v", k, after, loads, ok)
		}
	}
	if refused < 20 {
		t.Error(refused)
	}
}

// checkPlaced asks all calls that take nodes and a count, and wants them refused, or not.
func checkPlaced(t *testing.T, what, digest string, set []string, nodes []int64, k int64, right bool) {
	t.Helper()
	some := countUp(1, 3)
	if got, ok := impl.Holders(digest, nodes, k); ok != right || !ok && len(got) != 0 {
		t.Errorf("%s: Holders %v, %v", what, got, ok)
	}
	for _, pair := range [][2][]int64{{nodes, some}, {some, nodes}, {nodes, nodes}, {nodes, nil}, {nil, nodes}} {
		if got, ok := impl.Moves(set, pair[0], pair[1], k); ok != right || !ok && len(got) != 0 {
			t.Errorf("%s: Moves %v, %v", what, got, ok)
		}
	}
	if got, ok := impl.Loads(set, nodes, k); ok != right || !ok && len(got) != 0 {
		t.Errorf("%s: Loads %v, %v", what, got, ok)
	}
}

func TestPlacementOfWrongArguments(t *testing.T) {
	for what, nodes := range wrongNodeLists() {
		for _, d := range []string{digestX, "", "x"} {
			if got, ok := impl.Ranked(d, nodes); len(got) != 0 || ok {
				t.Errorf("%s: Ranked %v, %v", what, got, ok)
			}
			for _, k := range []int64{1, 7, 0, 8} {
				checkPlaced(t, what, d, xzy(), nodes, k, false)
				checkPlaced(t, what, d, nil, nodes, k, false)
			}
		}
	}
	for what, nodes := range rightNodeLists() {
		for k := int64(1); k <= 7; k++ {
			checkPlaced(t, what, digestX, xzy(), nodes, k, true)
		}
		for _, k := range wrongCounts {
			checkPlaced(t, fmt.Sprint(what, ", ", k), digestX, xzy(), nodes, k, false)
			checkPlaced(t, fmt.Sprint(what, " of no digests, ", k), digestX, nil, nodes, k, false)
		}
		for why, d := range noDigests(digitsOf("5b")) {
			if got, ok := impl.Ranked(d, nodes); len(got) != 0 || ok {
				t.Errorf("%s, %s: Ranked %v, %v", what, why, got, ok)
			}
			checkPlaced(t, what+", "+why, d, []string{d}, nodes, 3, false)
		}
	}
	for what, set := range wrongSets() {
		for _, nodes := range [][]int64{nil, {7}, countUp(1, 9), {2, 1}} {
			for _, k := range []int64{1, 7, 8} {
				if got, ok := impl.Moves(set, nodes, countUp(1, 3), k); len(got) != 0 || ok {
					t.Errorf("%s: Moves %v, %v", what, got, ok)
				}
				if got, ok := impl.Loads(set, nodes, k); len(got) != 0 || ok {
					t.Errorf("%s: Loads %v, %v", what, got, ok)
				}
			}
		}
	}
}

// A placeAnswer is what a call of chapter 13 answers.
type placeAnswer struct {
	numbers []int64
	copies  []impl.Copy
	ok      bool
}

func (a placeAnswer) parts() []part {
	return []part{partOf("the numbers", a.numbers, -9), partOf("the copies", a.copies, impl.Copy{Digest: "changed"})}
}

func (a placeAnswer) clone() placeAnswer {
	return placeAnswer{slices.Clone(a.numbers), slices.Clone(a.copies), a.ok}
}

func (a placeAnswer) same(b placeAnswer) bool {
	return a.ok == b.ok && slices.Equal(a.numbers, b.numbers) && slices.Equal(a.copies, b.copies)
}

func TestPlacementAnswersAreTheirOwn(t *testing.T) {
	digests, others := roomy(xzy(), "spare"), roomy(countUp(3, 9), 99)
	lists := rightNodeLists()
	for what, nodes := range wrongNodeLists() {
		lists["wrong: "+what] = nodes
	}
	for what, list := range lists {
		nodes := roomy(list, 99)
		parts := []part{partOf("the nodes", nodes, -9), partOf("the other nodes", others, -9), partOf("the digests", digests, "changed")}
		for _, k := range []int64{0, 1, 2, 7, 8} {
			for name, call := range map[string]func() placeAnswer{
				"Ranked":  func() placeAnswer { l, ok := impl.Ranked(digestX, nodes); return placeAnswer{numbers: l, ok: ok} },
				"Holders": func() placeAnswer { l, ok := impl.Holders(digestX, nodes, k); return placeAnswer{numbers: l, ok: ok} },
				"Moves": func() placeAnswer {
					l, ok := impl.Moves(digests, nodes, others, k)
					return placeAnswer{copies: l, ok: ok}
				},
				"Moves back": func() placeAnswer {
					l, ok := impl.Moves(digests, others, nodes, k)
					return placeAnswer{copies: l, ok: ok}
				},
				"Loads": func() placeAnswer { l, ok := impl.Loads(digests, nodes, k); return placeAnswer{numbers: l, ok: ok} },
			} {
				checkOwn(t, fmt.Sprint(name, " of ", what, ", ", k), parts, call)
			}
		}
	}
}
