package tests

import (
	"fmt"
	"math"
	"math/rand/v2"
	"slices"
	"strings"
	"testing"

	"loop.example/g00141/impl"
)

// manyPackets are n packets with the Ids 1, 2, .., from and to nodes as they come.
func manyPackets(n int) []impl.Packet {
	var packets []impl.Packet
	for i := range n {
		packets = append(packets, impl.Packet{Id: int64(i + 1), From: int64(i*7%50 + 1), To: int64(i*i%50 + 1), Body: fmt.Sprint("b", i)})
	}
	return packets
}

// netOf is a net with the packets from one to another, with the Ids 1, 2, ..
func netOf(ways ...[2]int64) impl.Net {
	n := impl.Net{Next: int64(len(ways) + 1)}
	for i, w := range ways {
		n.Packets = append(n.Packets, impl.Packet{Id: int64(i + 1), From: w[0], To: w[1], Body: fmt.Sprint("b", i)})
	}
	return n
}

func sameNet(a, b impl.Net) bool {
	return a.Next == b.Next && slices.Equal(a.Packets, b.Packets)
}

func isZeroNet(n impl.Net) bool {
	return sameNet(n, impl.Net{})
}

func copyNet(n impl.Net) impl.Net {
	n.Packets = slices.Clone(n.Packets)
	return n
}

// kept is a net with just the packets of these Ids.
func kept(n impl.Net, ids ...int64) impl.Net {
	n = copyNet(n)
	n.Packets = slices.DeleteFunc(n.Packets, func(p impl.Packet) bool { return !slices.Contains(ids, p.Id) })
	return n
}

func TestNetOkOfNumbers(t *testing.T) {
	for next, want := range map[int64]bool{
		-1: false, 0: false, 1: true, 2: true, impl.MaxNumber - 1: true, impl.MaxNumber: true, impl.MaxNumber + 1: false,
		math.MinInt64: false, math.MaxInt64: false,
	} {
		if got := impl.NetOk(impl.Net{Next: next}); got != want {
			t.Errorf("Next %d: %v", next, got)
		}
		if got := impl.NetOk(impl.Net{Next: next, Packets: []impl.Packet{}}); got != want {
			t.Errorf("Next %d with an empty list: %v", next, got)
		}
	}
	for n, want := range map[int]bool{1: true, 2: true, 299: true, 300: true, 301: false, 600: false} {
		for _, next := range []int64{int64(n + 1), 1000, impl.MaxNumber} {
			if got := impl.NetOk(impl.Net{Next: next, Packets: manyPackets(n)}); got != want {
				t.Errorf("%d packets with Next %d: %v", n, next, got)
			}
		}
		if impl.NetOk(impl.Net{Next: int64(n), Packets: manyPackets(n)}) {
			t.Errorf("%d packets, the last of which is Next", n)
		}
	}
}

func TestNetOkOfIds(t *testing.T) {
	for _, r := range []struct {
		what string
		ids  []int64
		next int64
		want bool
	}{
		{"the first", []int64{1}, 2, true},
		{"0", []int64{0}, 2, false},
		{"-1", []int64{-1}, 2, false},
		{"the least number", []int64{math.MinInt64}, 2, false},
		{"0 ahead of others", []int64{0, 1, 2}, 9, false},
		{"-1 ahead of others", []int64{-1, 1, 2}, 9, false},
		{"Next", []int64{2}, 2, false},
		{"above Next", []int64{3}, 2, false},
		{"1 with Next 1", []int64{1}, 1, false},
		{"Next - 1", []int64{8}, 9, true},
		{"Next - 1 at the end", []int64{1, 8}, 9, true},
		{"Next at the end", []int64{1, 9}, 9, false},
		{"Next in the middle", []int64{1, 9, 8}, 9, false},
		{"the greatest", []int64{impl.MaxNumber - 1}, impl.MaxNumber, true},
		{"the greatest Next", []int64{impl.MaxNumber}, impl.MaxNumber, false},
		{"above all numbers", []int64{math.MaxInt64}, impl.MaxNumber, false},
		{"rising", []int64{1, 2, 5, 8}, 9, true},
		{"falling", []int64{2, 1}, 9, false},
		{"falling at the end", []int64{1, 5, 3}, 9, false},
		{"falling at first", []int64{5, 1, 7}, 9, false},
		{"one twice", []int64{3, 3}, 9, false},
		{"the last one twice", []int64{1, 3, 3}, 9, false},
		{"the first one twice", []int64{1, 1, 3}, 9, false},
		{"one twice, not side by side", []int64{1, 3, 1}, 9, false},
	} {
		n := impl.Net{Next: r.next}
		for _, id := range r.ids {
			n.Packets = append(n.Packets, impl.Packet{Id: id, From: 1, To: 2, Body: "b"})
		}
		if got := impl.NetOk(n); got != r.want {
			t.Errorf("%s: %v", r.what, got)
		}
	}
}

// nodeNumbers tells of numbers whether they are nodes.
var nodeNumbers = map[int64]bool{
	-1: false, 0: false, 1: true, 2: true, 25: true, 49: true, 50: true, 51: false, 100: false, 257: false, 1<<32 + 1: false,
	math.MinInt64: false, math.MaxInt64: false,
}

func TestNetOkOfPackets(t *testing.T) {
	long := strings.Repeat("x", 20000)
	for at := range 3 {
		check := func(what string, want bool, change func(*impl.Packet)) {
			t.Helper()
			n := netOf([2]int64{1, 2}, [2]int64{2, 1}, [2]int64{3, 3})
			change(&n.Packets[at])
			if got := impl.NetOk(n); got != want {
				t.Errorf("%s of packet %d: %v", what, at, got)
			}
		}
		for number, want := range nodeNumbers {
			check(fmt.Sprint("From ", number), want, func(p *impl.Packet) { p.From = number })
			check(fmt.Sprint("To ", number), want, func(p *impl.Packet) { p.To = number })
			check(fmt.Sprint("From and To ", number), want, func(p *impl.Packet) { p.From, p.To = number, number })
		}
		check("an empty Body", true, func(p *impl.Packet) { p.Body = "" })
		check("a Body of any bytes", true, func(p *impl.Packet) { p.Body = "\x00\xff\n" })
		check("a Body of MaxBody bytes", true, func(p *impl.Packet) { p.Body = long })
		check("a Body of one byte more", false, func(p *impl.Packet) { p.Body = long + "x" })
		check("a Body of many bytes more", false, func(p *impl.Packet) { p.Body = long + long })
	}
	great := impl.Net{Next: 301, Packets: manyPackets(300)}
	for i := range great.Packets {
		great.Packets[i].Body = long
	}
	if !impl.NetOk(great) {
		t.Error("300 packets of MaxBody bytes")
	}
}

// wrongNets are nets that are not right, each for one cause.
func wrongNets() map[string]impl.Net {
	right := netOf([2]int64{1, 2}, [2]int64{2, 1}, [2]int64{1, 3})
	nets := map[string]impl.Net{"nothing": {}, "301 packets": {Next: 302, Packets: manyPackets(301)}, "Next too great alone": {Next: impl.MaxNumber + 1}}
	for what, change := range map[string]func(*impl.Net){
		"Next 0":         func(n *impl.Net) { n.Next, n.Packets = 0, nil },
		"Next -1":        func(n *impl.Net) { n.Next, n.Packets = -1, nil },
		"Next too great": func(n *impl.Net) { n.Next = impl.MaxNumber + 1 },
		"Next an Id":     func(n *impl.Net) { n.Next = 3 },
		"Ids that fall":  func(n *impl.Net) { slices.Reverse(n.Packets) },
		"an Id twice":    func(n *impl.Net) { n.Packets[1].Id = 1 },
		"an Id 0":        func(n *impl.Net) { n.Packets[0].Id = 0 },
		"From 0":         func(n *impl.Net) { n.Packets[2].From = 0 },
		"From 51":        func(n *impl.Net) { n.Packets[1].From = 51 },
		"To 0":           func(n *impl.Net) { n.Packets[2].To = 0 },
		"To 51":          func(n *impl.Net) { n.Packets[0].To = 51 },
		"Body too long":  func(n *impl.Net) { n.Packets[2].Body = strings.Repeat("x", 20001) },
	} {
		n := copyNet(right)
		change(&n)
		nets[what] = n
	}
	return nets
}

func TestNetsThatAreNotRight(t *testing.T) {
	for what, n := range wrongNets() {
		if impl.NetOk(n) {
			t.Errorf("%s: right", what)
		}
		for _, from := range []int64{0, 1, 2, 51} {
			for _, body := range []string{"", "x", strings.Repeat("x", 20001)} {
				if got, code := impl.Post(n, from, 1, body); code != impl.NwNet || !isZeroNet(got) {
					t.Errorf("%s, Post: %+v, %d", what, got, code)
				}
			}
			if list := impl.Between(n, from, 2); len(list) != 0 {
				t.Errorf("%s, Between: %d", what, list)
			}
		}
		for _, id := range []int64{-1, 0, 1, 2, 3, 9} {
			for _, keep := range []bool{false, true} {
				if got, p, ok := impl.Take(n, id, keep); ok || p != (impl.Packet{}) || !isZeroNet(got) {
					t.Errorf("%s, Take of %d: %+v, %+v, %v", what, id, got, p, ok)
				}
			}
		}
		for _, side := range [][]int64{nil, {1}, {1, 2, 3}, {0, 51}} {
			if got, gone := impl.Cutting(n, side); gone != -1 || !isZeroNet(got) {
				t.Errorf("%s, Cutting: %+v, %d", what, got, gone)
			}
		}
	}
}

func TestPost(t *testing.T) {
	long := strings.Repeat("x", 20000)
	some := netOf([2]int64{1, 2}, [2]int64{2, 1}, [2]int64{1, 2})
	some.Next = 9
	full := impl.Net{Next: 400, Packets: manyPackets(300)}
	last := impl.Net{Next: 400, Packets: manyPackets(299)}
	ended := impl.Net{Next: impl.MaxNumber, Packets: some.Packets}
	fullAndEnded := impl.Net{Next: impl.MaxNumber, Packets: full.Packets}
	for _, r := range []struct {
		what     string
		n        impl.Net
		from, to int64
		body     string
		code     int64
	}{
		{"the first", impl.Net{Next: 1}, 1, 2, "x", impl.NwOk},
		{"one more", some, 1, 2, "x", impl.NwOk},
		{"another way", some, 7, 8, "x", impl.NwOk},
		{"the same once more", some, 1, 2, "b0", impl.NwOk},
		{"to itself", some, 3, 3, "x", impl.NwOk},
		{"the least nodes", some, 1, 1, "", impl.NwOk},
		{"the greatest nodes", some, 50, 50, "x", impl.NwOk},
		{"MaxBody bytes", some, 1, 2, long, impl.NwOk},
		{"the 300th", last, 1, 2, "x", impl.NwOk},
		{"the last Id", impl.Net{Next: impl.MaxNumber - 1}, 1, 2, "x", impl.NwOk},
		{"from 0", some, 0, 2, "x", impl.NwForm},
		{"from 51", some, 51, 2, "x", impl.NwForm},
		{"to 0", some, 1, 0, "x", impl.NwForm},
		{"to 51", some, 1, 51, "x", impl.NwForm},
		{"from and to 0", some, 0, 0, "x", impl.NwForm},
		{"a byte too many", some, 1, 2, long + "x", impl.NwForm},
		{"from 0 and a byte too many", some, 0, 2, long + "x", impl.NwForm},
		{"into an empty net, from 0", impl.Net{Next: 1}, 0, 1, "", impl.NwForm},
		{"the 301st", full, 1, 2, "x", impl.NwFull},
		{"no Id is left", ended, 1, 2, "x", impl.NwFull},
		{"no Id is left, with no packets", impl.Net{Next: impl.MaxNumber}, 1, 2, "x", impl.NwFull},
		{"the 301st, and no Id is left", fullAndEnded, 1, 2, "x", impl.NwFull},
		{"the 301st from 0", full, 0, 2, "x", impl.NwForm},
		{"the 301st to 51", full, 1, 51, "x", impl.NwForm},
		{"the 301st with a byte too many", full, 1, 2, long + "x", impl.NwForm},
		{"no Id is left, from 51", ended, 51, 2, "x", impl.NwForm},
		{"no Id is left, with a byte too many", ended, 1, 2, long + "x", impl.NwForm},
		{"all at once", fullAndEnded, 0, 51, long + "x", impl.NwForm},
	} {
		want := copyNet(r.n)
		if r.code == impl.NwOk {
			want.Packets = append(want.Packets, impl.Packet{Id: want.Next, From: r.from, To: r.to, Body: r.body})
			want.Next++
		}
		got, code := impl.Post(r.n, r.from, r.to, r.body)
		if code != r.code || !sameNet(got, want) || !impl.NetOk(got) {
			t.Errorf("%s: Next %d and %d packets, code %d", r.what, got.Next, len(got.Packets), code)
		}
	}
	for number, right := range nodeNumbers {
		want := int64(impl.NwForm)
		if right {
			want = impl.NwOk
		}
		if _, code := impl.Post(some, number, 1, ""); code != want {
			t.Errorf("from %d: code %d", number, code)
		}
		if _, code := impl.Post(some, 50, number, ""); code != want {
			t.Errorf("to %d: code %d", number, code)
		}
	}
}

func TestTake(t *testing.T) {
	n := impl.Net{Next: 20, Packets: []impl.Packet{
		{Id: 2, From: 1, To: 2, Body: "first"}, {Id: 3, From: 2, To: 1, Body: "second"}, {Id: 7, From: 1, To: 2, Body: "first"},
		{Id: 8, From: 50, To: 50}, {Id: 19, From: 1, To: 2, Body: "last"},
	}}
	ids := []int64{2, 3, 7, 8, 19}
	for at, id := range ids {
		want := n.Packets[at]
		got, p, ok := impl.Take(n, id, true)
		if !ok || p != want || !sameNet(got, n) {
			t.Errorf("Take of %d with keep: %+v, %+v, %v", id, got, p, ok)
		}
		got, p, ok = impl.Take(n, id, false)
		left := kept(n, slices.Delete(slices.Clone(ids), at, at+1)...)
		if !ok || p != want || !sameNet(got, left) || !impl.NetOk(got) {
			t.Errorf("Take of %d: %+v, %+v, %v", id, got, p, ok)
		}
		for _, keep := range []bool{false, true} {
			again, p, ok := impl.Take(got, id, keep)
			if ok || p != (impl.Packet{}) || !sameNet(again, got) {
				t.Errorf("a second Take of %d: %+v, %+v, %v", id, again, p, ok)
			}
		}
	}
	for _, id := range []int64{-1, 0, 1, 4, 6, 9, 18, 20, 21, 1<<32 + 2, math.MinInt64, math.MaxInt64} {
		for _, keep := range []bool{false, true} {
			for _, net := range []impl.Net{n, {Next: 1}, {Next: 20}} {
				if got, p, ok := impl.Take(net, id, keep); ok || p != (impl.Packet{}) || !sameNet(got, net) {
					t.Errorf("Take of %d: %+v, %+v, %v", id, got, p, ok)
				}
			}
		}
	}
	one := netOf([2]int64{4, 5})
	if got, p, ok := impl.Take(one, 1, false); !ok || p != one.Packets[0] || !sameNet(got, impl.Net{Next: 2}) {
		t.Errorf("Take of the only one: %+v, %+v, %v", got, p, ok)
	}
	full := impl.Net{Next: impl.MaxNumber, Packets: manyPackets(300)}
	for at, p := range full.Packets {
		got, q, ok := impl.Take(full, p.Id, false)
		if !ok || q != p || len(got.Packets) != 299 || !slices.Equal(got.Packets[:at], full.Packets[:at]) || !slices.Equal(got.Packets[at:], full.Packets[at+1:]) {
			t.Errorf("Take of %d of 300: %+v, %v", p.Id, q, ok)
		}
	}
}

func TestBetween(t *testing.T) {
	n := netOf([2]int64{1, 2}, [2]int64{2, 1}, [2]int64{1, 2}, [2]int64{3, 3}, [2]int64{1, 3}, [2]int64{1, 2}, [2]int64{50, 1}, [2]int64{12, 3})
	for _, r := range []struct {
		from, to int64
		want     []int64
	}{
		{1, 2, []int64{1, 3, 6}}, {2, 1, []int64{2}}, {3, 3, []int64{4}}, {1, 3, []int64{5}}, {3, 1, nil}, {50, 1, []int64{7}}, {1, 50, nil},
		{12, 3, []int64{8}}, {1, 23, nil}, {1, 1, nil}, {2, 2, nil}, {4, 5, nil}, {0, 0, nil}, {0, 1, nil}, {1, 0, nil}, {51, 1, nil},
		{-1, 2, nil}, {1<<32 + 1, 2, nil}, {math.MinInt64, math.MaxInt64, nil},
	} {
		if got := impl.Between(n, r.from, r.to); !slices.Equal(got, r.want) {
			t.Errorf("from %d to %d: %d", r.from, r.to, got)
		}
		for _, empty := range []impl.Net{{Next: 1}, {Next: 30}} {
			if got := impl.Between(empty, r.from, r.to); len(got) != 0 {
				t.Errorf("from %d to %d with no packets: %d", r.from, r.to, got)
			}
		}
	}
	full := impl.Net{Next: 301, Packets: manyPackets(300)}
	for i := range full.Packets {
		full.Packets[i].From, full.Packets[i].To = 7, 8
	}
	if got := impl.Between(full, 7, 8); len(got) != 300 || !slices.IsSorted(got) || got[0] != 1 || got[299] != 300 {
		t.Errorf("300 packets of one way: %d", got)
	}
}

func TestCutting(t *testing.T) {
	n := netOf([2]int64{1, 2}, [2]int64{2, 1}, [2]int64{1, 3}, [2]int64{3, 3}, [2]int64{2, 3}, [2]int64{50, 1}, [2]int64{1, 2})
	var all, most []int64
	for id := range int64(50) {
		all, most = append(all, id+1), append(most, id+2)
	}
	turned := slices.Clone(all)
	slices.Reverse(turned)
	for _, r := range []struct {
		what string
		side []int64
		left []int64
	}{
		{"an empty side", nil, []int64{1, 2, 3, 4, 5, 6, 7}},
		{"all nodes", all, []int64{1, 2, 3, 4, 5, 6, 7}},
		{"all nodes turned round", turned, []int64{1, 2, 3, 4, 5, 6, 7}},
		{"all but the first", most, []int64{4, 5}},
		{"the first alone", []int64{1}, []int64{4, 5}},
		{"the second alone", []int64{2}, []int64{3, 4, 6}},
		{"the third alone", []int64{3}, []int64{1, 2, 4, 6, 7}},
		{"the last alone", []int64{50}, []int64{1, 2, 3, 4, 5, 7}},
		{"the first and the second", []int64{1, 2}, []int64{1, 2, 4, 7}},
		{"the same turned round", []int64{2, 1}, []int64{1, 2, 4, 7}},
		{"the first and the third", []int64{1, 3}, []int64{3, 4}},
		{"the second and the third", []int64{2, 3}, []int64{4, 5, 6}},
		{"the first three", []int64{1, 2, 3}, []int64{1, 2, 3, 4, 5, 7}},
		{"nodes with no packets", []int64{7, 8, 49}, []int64{1, 2, 3, 4, 5, 6, 7}},
		{"one twice", []int64{1, 1}, []int64{4, 5}},
		{"one three times, and another", []int64{1, 2, 1, 1}, []int64{1, 2, 4, 7}},
		{"no node", []int64{0}, []int64{1, 2, 3, 4, 5, 6, 7}},
		{"many that are no nodes", []int64{-1, 0, 51, 101, 1 << 32, 1<<32 + 1, math.MinInt64, math.MaxInt64, -50}, []int64{1, 2, 3, 4, 5, 6, 7}},
		{"one among some that are no nodes", []int64{0, 51, 1, 1<<32 + 2, -3}, []int64{4, 5}},
	} {
		got, gone := impl.Cutting(n, r.side)
		if gone != int64(7-len(r.left)) || !sameNet(got, kept(n, r.left...)) || !impl.NetOk(got) {
			t.Errorf("%s: %+v, %d went", r.what, got, gone)
		}
		if again, gone := impl.Cutting(got, r.side); gone != 0 || !sameNet(again, got) {
			t.Errorf("%s once more: %+v, %d went", r.what, again, gone)
		}
		for _, empty := range []impl.Net{{Next: 1}, {Next: impl.MaxNumber}} {
			if got, gone := impl.Cutting(empty, r.side); gone != 0 || !sameNet(got, empty) {
				t.Errorf("%s with no packets: %+v, %d went", r.what, got, gone)
			}
		}
	}
}

func TestCuttingOfManyPackets(t *testing.T) {
	n := impl.Net{Next: 301, Packets: manyPackets(300)}
	for at := range int64(51) {
		side := []int64{at, at + 1, at*3%50 + 1, at*at%50 + 1}
		var left []int64
		for _, p := range n.Packets {
			if slices.Contains(side, p.From) == slices.Contains(side, p.To) {
				left = append(left, p.Id)
			}
		}
		if got, gone := impl.Cutting(n, side); gone != int64(300-len(left)) || !sameNet(got, kept(n, left...)) {
			t.Errorf("side %d: %d left, %d went", side, len(got.Packets), gone)
		}
	}
	for i := range n.Packets {
		n.Packets[i].From, n.Packets[i].To = 1, 2
	}
	if got, gone := impl.Cutting(n, []int64{2}); gone != 300 || !sameNet(got, impl.Net{Next: 301}) {
		t.Errorf("all: %d left, %d went", len(got.Packets), gone)
	}
}

func TestWhatIsPostedIsUnderWayOnce(t *testing.T) {
	n := impl.Net{Next: 1}
	bodies := []string{"a", "a", "", "b", mixedBytes(300)}
	for i, body := range bodies {
		next, code := impl.Post(n, 1, 2, body)
		if code != impl.NwOk {
			t.Fatal(code)
		}
		n = next
		if list := impl.Between(n, 1, 2); len(list) != i+1 || list[i] != int64(i+1) {
			t.Errorf("behind %d: %d", i+1, list)
		}
	}
	for _, at := range []int{2, 0, 4, 3, 1} {
		id := int64(at + 1)
		for range 2 {
			next, p, ok := impl.Take(n, id, true)
			if !ok || p.Body != bodies[at] || !sameNet(next, n) {
				t.Errorf("Take of %d with keep: %+v, %v", id, p, ok)
			}
			n = next
		}
		next, p, ok := impl.Take(n, id, false)
		if !ok || p.Body != bodies[at] {
			t.Errorf("Take of %d: %+v, %v", id, p, ok)
		}
		n = next
		if _, _, ok := impl.Take(n, id, true); ok {
			t.Errorf("%d comes once more", id)
		}
	}
	if !sameNet(n, impl.Net{Next: 6}) {
		t.Errorf("%+v", n)
	}
	if n, _ = impl.Post(n, 3, 4, "z"); n.Packets[0].Id != 6 {
		t.Error("an Id that was taken is given once more")
	}
}

func TestNetsAgainstTheSlowWay(t *testing.T) {
	r := rand.New(rand.NewPCG(8, 8))
	seen := map[string]int{}
	for range 40 {
		n, slow := impl.Net{Next: 1}, map[int64]impl.Packet{}
		if r.IntN(4) == 0 {
			n.Packets, n.Next = manyPackets(296), impl.MaxNumber-r.Int64N(90)
			for _, p := range n.Packets {
				slow[p.Id] = p
			}
		}
		for range 120 {
			what, got := randomNetStep(t, r, n, slow)
			seen[what]++
			want := impl.Net{Next: got.Next}
			for _, p := range slow {
				want.Packets = append(want.Packets, p)
			}
			slices.SortFunc(want.Packets, func(a, b impl.Packet) int { return int(a.Id - b.Id) })
			if !sameNet(got, want) || !impl.NetOk(got) {
				t.Fatalf("%s: %+v, not %+v", what, got, want)
			}
			n = got
		}
	}
	for _, what := range []string{"posted", "code 2", "code 3", "taken", "kept", "none there", "cut"} {
		if seen[what] == 0 {
			t.Errorf("%s has not come about", what)
		}
	}
}

// randomNetStep does one thing to a net and to what it has, kept beside the program.
func randomNetStep(t *testing.T, r *rand.Rand, n impl.Net, slow map[int64]impl.Packet) (string, impl.Net) {
	t.Helper()
	from, to := r.Int64N(5), 1+r.Int64N(4)
	switch r.IntN(12) {
	case 0, 1, 2:
		id, keep := n.Next-1-r.Int64N(8), r.IntN(2) == 0
		got, p, ok := impl.Take(n, id, keep)
		want, there := slow[id]
		if ok != there || p != want || got.Next != n.Next {
			t.Fatalf("Take of %d: %+v, %v", id, p, ok)
		}
		if !there {
			return "none there", got
		}
		if keep {
			return "kept", got
		}
		delete(slow, id)
		return "taken", got
	case 3:
		side := []int64{from, to, r.Int64N(52)}[:r.IntN(4)]
		got, gone := impl.Cutting(n, side)
		had := len(slow)
		for id, p := range slow {
			if slices.Contains(side, p.From) != slices.Contains(side, p.To) {
				delete(slow, id)
			}
		}
		if gone != int64(had-len(slow)) || got.Next != n.Next {
			t.Fatalf("Cutting of %d: %d went", side, gone)
		}
		return "cut", got
	}
	got, code := impl.Post(n, from, to, mixedBytes(r.IntN(4)))
	want, next := int64(impl.NwOk), n.Next+1
	switch {
	case from == 0:
		want, next = impl.NwForm, n.Next
	case len(slow) == 300 || n.Next == impl.MaxNumber:
		want, next = impl.NwFull, n.Next
	}
	if code != want || got.Next != next {
		t.Fatalf("Post: code %d, not %d, and Next %d", code, want, got.Next)
	}
	if code != impl.NwOk {
		return fmt.Sprint("code ", code), got
	}
	slow[n.Next] = got.Packets[len(got.Packets)-1]
	if p := slow[n.Next]; p.Id != n.Next || p.From != from || p.To != to {
		t.Fatalf("Post: %+v", p)
	}
	return "posted", got
}

func TestNetAnswersAreTheirOwn(t *testing.T) {
	side := roomy([]int64{1, 2, 7}, 99)
	posted := func(n impl.Net, _ int64) impl.Net { return n }
	calls := map[string]func(impl.Net) impl.Net{
		"Post":                func(n impl.Net) impl.Net { return posted(impl.Post(n, 1, 2, "new")) },
		"Post of no form":     func(n impl.Net) impl.Net { return posted(impl.Post(n, 0, 2, "new")) },
		"Take":                func(n impl.Net) impl.Net { e, _, _ := impl.Take(n, 2, false); return e },
		"Take with keep":      func(n impl.Net) impl.Net { e, _, _ := impl.Take(n, 2, true); return e },
		"Take of none":        func(n impl.Net) impl.Net { e, _, _ := impl.Take(n, 999, false); return e },
		"Cutting":             func(n impl.Net) impl.Net { return posted(impl.Cutting(n, side)) },
		"Cutting of no nodes": func(n impl.Net) impl.Net { return posted(impl.Cutting(n, nil)) },
		"NetOk":               func(n impl.Net) impl.Net { impl.NetOk(n); return impl.Net{} },
		"Between": func(n impl.Net) impl.Net {
			scribble(impl.Between(n, 1, 1), -9)
			var e impl.Net
			for _, id := range impl.Between(n, 1, 1) {
				e.Packets = append(e.Packets, impl.Packet{Id: id})
			}
			return e
		},
	}
	for _, n := range []impl.Net{
		{}, {Next: 1}, {Next: 2, Packets: manyPackets(1)}, {Next: 9, Packets: manyPackets(8)}, {Next: 301, Packets: manyPackets(300)},
		{Next: 302, Packets: manyPackets(301)}, {Next: impl.MaxNumber, Packets: manyPackets(5)}, {Next: 3, Packets: manyPackets(8)},
	} {
		for name, call := range calls {
			argument := n
			argument.Packets = roomy(n.Packets, impl.Packet{Id: 99, From: 9, To: 9, Body: "spare"})
			watches := []watch{watchOver("the argument's Packets", argument.Packets), watchOver("the side", side)}
			answer := call(argument)
			checkWatches(t, name, watches)
			before := copyNet(answer)
			scribble(answer.Packets, impl.Packet{Id: -9, Body: "changed"})
			checkWatches(t, name+", scribbled on", watches)
			if again := call(argument); !sameNet(again, before) {
				t.Errorf("%s: the same argument, another answer: %+v", name, again)
			}
		}
	}
}
