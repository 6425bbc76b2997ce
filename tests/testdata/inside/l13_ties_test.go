package impl

import (
	"slices"
	"testing"
)

// No digest is known for which two nodes weigh the same, so that ties are asked of the sort itself.
func TestPlacementTies(t *testing.T) {
	same := func(int64) uint64 { return 7 }
	odd := func(node int64) uint64 { return uint64(node % 2) }
	ends := func(node int64) uint64 {
		if node < 0 || node > 40 {
			return 1<<64 - 1
		}
		return 0
	}
	for _, r := range []struct {
		what   string
		nodes  []int64
		weight func(int64) uint64
		want   []int64
	}{
		{"none", nil, same, nil},
		{"one", []int64{9}, same, []int64{9}},
		{"all the same", []int64{1, 2, 3, 9, 10, 50}, same, []int64{1, 2, 3, 9, 10, 50}},
		{"all the same, turned round", []int64{50, 10, 9, 3, 2, 1}, same, []int64{1, 2, 3, 9, 10, 50}},
		{"some the same", []int64{1, 2, 3, 4, 5, 6}, odd, []int64{1, 3, 5, 2, 4, 6}},
		{"the least and the greatest weight", []int64{9, 10, 41, 50}, ends, []int64{41, 50, 9, 10}},
	} {
		if got := heaviestFirst(r.nodes, r.weight); !slices.Equal(got, r.want) {
			t.Errorf("%s: %v", r.what, got)
		}
	}
	var all []int64
	for node := range int64(50) {
		all = append(all, node+1)
	}
	if got := heaviestFirst(all, same); !slices.Equal(got, all) {
		t.Errorf("50 the same: %v", got)
	}
}
