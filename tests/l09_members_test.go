package tests

import (
	"fmt"
	"math"
	"math/rand/v2"
	"regexp"
	"slices"
	"strconv"
	"strings"
	"testing"

	"loop.example/g00141/impl"
)

func voters(ids ...int64) impl.Conf {
	return impl.Conf{Voters: ids}
}

func confOf(voters, learners []int64) impl.Conf {
	return impl.Conf{Voters: voters, Learners: learners}
}

func countUp(from, n int64) []int64 {
	var list []int64
	for i := range n {
		list = append(list, from+i)
	}
	return list
}

func sameConf(a, b impl.Conf) bool {
	return slices.Equal(a.Voters, b.Voters) && slices.Equal(a.Learners, b.Learners)
}

func isZeroConf(c impl.Conf) bool {
	return sameConf(c, impl.Conf{})
}

func copyConf(c impl.Conf) impl.Conf {
	return impl.Conf{Voters: slices.Clone(c.Voters), Learners: slices.Clone(c.Learners)}
}

// slowConfOk asks for each of the words of the document on its own.
func slowConfOk(c impl.Conf) bool {
	if len(c.Voters) == 0 || len(c.Voters) > 7 || len(c.Learners) > 7 {
		return false
	}
	for _, list := range [][]int64{c.Voters, c.Learners} {
		for i, id := range list {
			if id < 1 || id > 50 {
				return false
			}
			if i > 0 && !(list[i-1] < id) {
				return false
			}
		}
	}
	for _, id := range c.Voters {
		if slices.Contains(c.Learners, id) {
			return false
		}
	}
	return true
}

func slowConfText(c impl.Conf) string {
	if !slowConfOk(c) {
		return ""
	}
	words := []string{"v"}
	for _, id := range c.Voters {
		words = append(words, fmt.Sprint(id))
	}
	if len(c.Learners) > 0 {
		words = append(words, "l")
	}
	for _, id := range c.Learners {
		words = append(words, fmt.Sprint(id))
	}
	return strings.Join(words, " ")
}

func slowQuorum(c impl.Conf, ids []int64) bool {
	if !slowConfOk(c) {
		return false
	}
	there := 0
	for _, id := range c.Voters {
		if slices.Contains(ids, id) {
			there++
		}
	}
	return 2*there > len(c.Voters)
}

// slowChanged is told by lists, not by sets.
func slowChanged(c impl.Conf, kind, id int64) (impl.Conf, int64) {
	if !slowConfOk(c) {
		return impl.Conf{}, impl.CnConf
	}
	votes, learns := slices.Contains(c.Voters, id), slices.Contains(c.Learners, id)
	without := func(list []int64) []int64 {
		return slices.DeleteFunc(slices.Clone(list), func(x int64) bool { return x == id })
	}
	with := func(list []int64) []int64 {
		list = append(slices.Clone(list), id)
		slices.Sort(list)
		return list
	}
	switch {
	case kind != 1 && kind != 2 && kind != 3, id < 1, id > 50:
		return c, impl.CnForm
	case kind == 1 && (votes || learns), kind == 2 && !learns, kind == 3 && !votes && !learns:
		return c, impl.CnThere
	case kind == 3 && votes && len(c.Voters) == 1:
		return c, impl.CnLast
	case kind == 1 && len(c.Learners) == 7, kind == 2 && len(c.Voters) == 7:
		return c, impl.CnMany
	case kind == 1:
		return impl.Conf{Voters: c.Voters, Learners: with(c.Learners)}, impl.CnOk
	case kind == 2:
		return impl.Conf{Voters: with(c.Voters), Learners: without(c.Learners)}, impl.CnOk
	}
	return impl.Conf{Voters: without(c.Voters), Learners: without(c.Learners)}, impl.CnOk
}

// majorities are all choices of more than half of a list.
func majorities(list []int64) [][]int64 {
	var found [][]int64
	for _, places := range choices(len(list)) {
		if 2*len(places) <= len(list) {
			continue
		}
		var some []int64
		for _, place := range places {
			some = append(some, list[place])
		}
		found = append(found, some)
	}
	return found
}

// slowMeet holds each majority of one against each of the other.
func slowMeet(a, b impl.Conf) bool {
	if !slowConfOk(a) || !slowConfOk(b) {
		return false
	}
	for _, some := range majorities(a.Voters) {
		for _, others := range majorities(b.Voters) {
			if !slices.ContainsFunc(some, func(id int64) bool { return slices.Contains(others, id) }) {
				return false
			}
		}
	}
	return true
}

func rightConfs() map[string]impl.Conf {
	return map[string]impl.Conf{
		"one voter":              voters(1),
		"the last node":          voters(50),
		"the first and the last": voters(1, 50),
		"two voters":             voters(2, 3),
		"three voters":           voters(1, 2, 3),
		"four voters":            voters(3, 9, 27, 49),
		"seven voters":           voters(1, 2, 3, 4, 5, 6, 7),
		"the last seven":         voters(44, 45, 46, 47, 48, 49, 50),
		"one of each":            {Voters: []int64{2}, Learners: []int64{1}},
		"a learner":              {Voters: []int64{1, 2, 3}, Learners: []int64{4}},
		"a learner between":      {Voters: []int64{1, 3}, Learners: []int64{2}},
		"seven learners":         {Voters: []int64{8}, Learners: countUp(1, 7)},
		"seven of each":          {Voters: []int64{1, 3, 5, 7, 9, 11, 13}, Learners: []int64{2, 4, 6, 8, 10, 12, 50}},
		"empty learners":         {Voters: []int64{5, 6}, Learners: []int64{}},
	}
}

// wrongConfs are ones that are not right, each for one cause.
func wrongConfs() map[string]impl.Conf {
	confs := map[string]impl.Conf{
		"nothing":                   {},
		"empty lists":               {Voters: []int64{}, Learners: []int64{}},
		"learners alone":            {Learners: []int64{1}},
		"eight voters":              voters(countUp(1, 8)...),
		"eight learners":            {Voters: []int64{50}, Learners: countUp(1, 8)},
		"fifty voters":              voters(countUp(1, 50)...),
		"voters that fall":          voters(2, 1),
		"voters that fall late":     voters(1, 2, 9, 8),
		"voters that fall early":    voters(3, 1, 4),
		"a voter twice":             voters(1, 1),
		"the last voter twice":      voters(1, 2, 2),
		"a voter twice, not near":   voters(1, 2, 1),
		"learners that fall":        {Voters: []int64{1}, Learners: []int64{3, 2}},
		"learners that fall late":   {Voters: []int64{1}, Learners: []int64{2, 9, 8}},
		"a learner twice":           {Voters: []int64{1}, Learners: []int64{2, 2}},
		"a learner twice, not near": {Voters: []int64{1}, Learners: []int64{2, 3, 2}},
		"one in both":               {Voters: []int64{1}, Learners: []int64{1}},
		"the last in both":          {Voters: []int64{1, 2, 9}, Learners: []int64{3, 9}},
		"the first in both":         {Voters: []int64{1, 2, 9}, Learners: []int64{1, 3}},
	}
	for number, right := range nodeNumbers {
		if !right {
			confs[fmt.Sprint("a voter ", number)] = voters(number)
			confs[fmt.Sprint("a learner ", number)] = impl.Conf{Voters: []int64{7}, Learners: []int64{number}}
		}
	}
	return confs
}

func TestConfOk(t *testing.T) {
	for what, c := range rightConfs() {
		if !impl.ConfOk(c) || !slowConfOk(c) {
			t.Errorf("%s: not right", what)
		}
	}
	for what, c := range wrongConfs() {
		if impl.ConfOk(c) || slowConfOk(c) {
			t.Errorf("%s: right", what)
		}
	}
	for v := range int64(10) {
		for l := range int64(10) {
			want := v >= 1 && v <= 7 && l <= 7
			for _, c := range []impl.Conf{
				{Voters: countUp(1, v), Learners: countUp(20, l)},
				{Voters: countUp(51-v, v), Learners: countUp(1, l)},
			} {
				if got := impl.ConfOk(c); got != want {
					t.Errorf("%d voters, %d learners: %v", v, l, got)
				}
			}
		}
	}
}

func TestConfOkOfNumbers(t *testing.T) {
	for number, right := range nodeNumbers {
		if got := impl.ConfOk(voters(number)); got != right {
			t.Errorf("the voter %d: %v", number, got)
		}
		c := impl.Conf{Voters: []int64{30}, Learners: []int64{number}}
		if got := impl.ConfOk(c); got != right {
			t.Errorf("the learner %d: %v", number, got)
		}
	}
	for _, r := range []struct {
		list []int64
		want bool
	}{
		{[]int64{0, 1}, false}, {[]int64{-1, 1}, false}, {[]int64{1, 50}, true}, {[]int64{1, 51}, false}, {[]int64{49, 50}, true},
		{[]int64{50, 51}, false}, {[]int64{1, 2, 64}, false}, {[]int64{1, 2, 65}, false}, {[]int64{1, 2, 66}, false},
		{[]int64{2, 64 + 1}, false}, {[]int64{2, 1<<32 + 3}, false}, {[]int64{math.MinInt64, 1}, false}, {[]int64{1, math.MaxInt64}, false},
		{[]int64{1, 0}, false}, {[]int64{3, -64}, false},
	} {
		if got := impl.ConfOk(impl.Conf{Voters: r.list}); got != r.want {
			t.Errorf("the voters %d: %v", r.list, got)
		}
		if got := impl.ConfOk(impl.Conf{Voters: []int64{20}, Learners: r.list}); got != r.want {
			t.Errorf("the learners %d: %v", r.list, got)
		}
	}
}

func TestQuorum(t *testing.T) {
	for n := int64(1); n <= 7; n++ {
		for _, first := range []int64{1, 20, 51 - n} {
			c := impl.Conf{Voters: countUp(first, n), Learners: []int64{10, 11, 12}}
			for _, places := range choices(int(n)) {
				var some, turned, padded []int64
				for _, place := range places {
					some = append(some, first+place)
				}
				turned = slices.Clone(some)
				slices.Reverse(turned)
				padded = append(slices.Concat(some, some, turned), 10, 11, 12, 30, 31, 32, 33, 0, -1, 51, 64+first, 1<<32+first, math.MinInt64, math.MaxInt64)
				want := 2*len(some) > int(n)
				for _, ids := range [][]int64{some, turned, padded} {
					if got := impl.Quorum(c, ids); got != want {
						t.Errorf("%d of %d voters, by %d: %v", len(some), n, ids, got)
					}
				}
			}
		}
	}
}

func TestQuorumOfOthers(t *testing.T) {
	c := impl.Conf{Voters: []int64{1, 2, 3}, Learners: []int64{4, 5, 6}}
	for _, r := range []struct {
		what string
		ids  []int64
		want bool
	}{
		{"nobody", nil, false}, {"learners", []int64{4, 5, 6}, false}, {"one and learners", []int64{1, 4, 5, 6}, false},
		{"one twice", []int64{2, 2}, false}, {"one seven times", []int64{2, 2, 2, 2, 2, 2, 2}, false}, {"strangers", []int64{7, 8, 9}, false},
		{"one and strangers", []int64{3, 7, 8}, false}, {"two", []int64{1, 3}, true}, {"two turned round", []int64{3, 1}, true},
		{"two among others", []int64{9, 3, 4, 0, 1}, true}, {"all", []int64{1, 2, 3}, true}, {"numbers that are none", []int64{0, -1, 65, 66, 67}, false},
	} {
		if got := impl.Quorum(c, r.ids); got != r.want {
			t.Errorf("%s: %v", r.what, got)
		}
	}
	if impl.Quorum(voters(1, 2), []int64{1}) || impl.Quorum(voters(1, 2, 3, 4), []int64{2, 3}) {
		t.Error("just half")
	}
	for what, c := range wrongConfs() {
		for _, ids := range [][]int64{nil, c.Voters, c.Learners, countUp(1, 50)} {
			if impl.Quorum(c, ids) {
				t.Errorf("%s: a quorum", what)
			}
		}
	}
}

func TestConfText(t *testing.T) {
	for _, r := range []struct {
		c    impl.Conf
		text string
	}{
		{voters(1), "v 1"}, {voters(50), "v 50"}, {voters(1, 2, 3), "v 1 2 3"}, {voters(9, 10, 11), "v 9 10 11"},
		{voters(1, 2, 3, 4, 5, 6, 7), "v 1 2 3 4 5 6 7"}, {voters(10, 20, 30, 40, 50), "v 10 20 30 40 50"},
		{impl.Conf{Voters: []int64{1}, Learners: []int64{2}}, "v 1 l 2"},
		{impl.Conf{Voters: []int64{7, 9}, Learners: []int64{1, 8, 50}}, "v 7 9 l 1 8 50"},
		{impl.Conf{Voters: []int64{50}, Learners: countUp(10, 7)}, "v 50 l 10 11 12 13 14 15 16"},
	} {
		if got := impl.ConfText(r.c); got != r.text {
			t.Errorf("%q, not %q", got, r.text)
		}
		if c, ok := impl.ReadConf(r.text); !ok || !sameConf(c, r.c) {
			t.Errorf("%q: %+v, %v", r.text, c, ok)
		}
	}
	for what, c := range rightConfs() {
		text := impl.ConfText(c)
		if text != slowConfText(c) {
			t.Errorf("%s: %q", what, text)
		}
		if back, ok := impl.ReadConf(text); !ok || !sameConf(back, c) {
			t.Errorf("%s: %+v, %v", what, back, ok)
		}
	}
	for what, c := range wrongConfs() {
		if text := impl.ConfText(c); text != "" {
			t.Errorf("%s: %q", what, text)
		}
	}
}

// rawConfText is the text that a conf would have, right or not.
func rawConfText(c impl.Conf) string {
	text := "v"
	for _, id := range c.Voters {
		text += " " + strconv.FormatInt(id, 10)
	}
	if len(c.Learners) > 0 {
		text += " l"
	}
	for _, id := range c.Learners {
		text += " " + strconv.FormatInt(id, 10)
	}
	return text
}

func TestReadConfOfWrongTexts(t *testing.T) {
	for what, c := range wrongConfs() {
		if got, ok := impl.ReadConf(rawConfText(c)); ok || !isZeroConf(got) {
			t.Errorf("%s: %+v, %v", what, got, ok)
		}
	}
	for _, text := range []string{
		"", " ", "  ", "v", "v ", " v", "v  ", "l", "l 1", " l 1", "v l", "v l 1", "v  l 1", "1", "1 2 3", " 1 2 3", "l 1 v 2", "v1", "v1 2", "v 1l 2", "v 1 l2",
		"v 01", "v 001", "v 00", "v 0", "v -1", "v +1", "v 1 02", "v 1 l 02", "v 1 l 00002", "v 100", "v 51", "v 500", "v 1 l 51", "v 1 l 0",
		"v 1000000000000000000000001", "v 18446744073709551617", "v 1 18446744073709551618", "v 4294967297", "v 0000000000000001", "v 9223372036854775808",
		"v 1 ", "v 1 2 ", "v 1  2", "v  1", " v 1", "v 1 l 2 ", "v 1 l  2", "v 1  l 2", "v 1 l", "v 1 l ", "v 1 l l 2", "v 1 l 2 l 3", "v 1 l 2 l", "v 1 v 2", "v v 1", "v 1 v",
		"V 1", "v 1 L 2", "w 1", "vv 1", "x 1", "1 1", "v 1 x 2", "v 1 x", "v x", "v 1.0", "v 1e0", "v 0x1", "v 1_0", "v 1,2", "v 1\n", "\nv 1", "v 1\n2", "v\t1", "v 1\t2", "v 1\x00", "v\x001",
		"v 1 1", "v 2 1", "v 1 l 1", "v 1 2 l 2", "v 1 l 3 2", "v 1 l 2 2", "v 1 2 3 4 5 6 7 8", "v 50 l 1 2 3 4 5 6 7 8", "v ١", "v 1 l\xff",
		"v 1" + strings.Repeat(" ", 4000), "v" + strings.Repeat(" 1", 3000), "v" + strings.Repeat(" 9", 7), strings.Repeat("v 1", 2),
	} {
		if c, ok := impl.ReadConf(text); ok || !isZeroConf(c) {
			t.Errorf("%q: %+v, %v", text, c, ok)
		}
	}
}

var confForm = regexp.MustCompile(`\Av((?: [1-9][0-9]?)+)(?: l((?: [1-9][0-9]?)+))?\z`)

// slowReadConf reads by a form, beside the program.
func slowReadConf(text string) (impl.Conf, bool) {
	parts := confForm.FindStringSubmatch(text)
	if parts == nil {
		return impl.Conf{}, false
	}
	numbers := func(part string) []int64 {
		var list []int64
		for _, word := range strings.Fields(part) {
			id, _ := strconv.Atoi(word)
			list = append(list, int64(id))
		}
		return list
	}
	c := impl.Conf{Voters: numbers(parts[1]), Learners: numbers(parts[2])}
	if !slowConfOk(c) {
		return impl.Conf{}, false
	}
	return c, true
}

func TestReadConfOfTextsNearRightOnes(t *testing.T) {
	right := 0
	check := func(text string) {
		c, ok := impl.ReadConf(text)
		want, wantOk := slowReadConf(text)
		if ok != wantOk || !sameConf(c, want) {
			t.Errorf("%q: %+v, %v", text, c, ok)
		}
		if ok {
			right++
		}
		if ok && impl.ConfText(c) != text {
			t.Errorf("%q has a second text %q", text, impl.ConfText(c))
		}
	}
	for _, c := range rightConfs() {
		text := rawConfText(c)
		for at := range len(text) + 1 {
			check(text[:at])
			check(text[at:])
			for _, b := range []string{" ", "0", "1", "5", "9", "l", "v", "-", "+", "\n", "\x00"} {
				check(text[:at] + b + text[at:])
				if at < len(text) {
					check(text[:at] + b + text[at+1:])
				}
			}
			if at < len(text) {
				check(text[:at] + text[at+1:])
			}
		}
	}
	textsOver("v l15", 7, check)
	if right < 100 {
		t.Errorf("%d right ones alone", right)
	}
}

func TestChanged(t *testing.T) {
	some := impl.Conf{Voters: []int64{1, 2, 3}, Learners: []int64{4, 9}}
	fullLearners := impl.Conf{Voters: []int64{1, 2}, Learners: countUp(11, 7)}
	fullVoters := impl.Conf{Voters: countUp(1, 7), Learners: []int64{8, 50}}
	full := impl.Conf{Voters: countUp(1, 7), Learners: countUp(11, 7)}
	last := impl.Conf{Voters: []int64{5}, Learners: []int64{6}}
	for _, r := range []struct {
		what     string
		c        impl.Conf
		kind, id int64
		want     impl.Conf
		code     int64
	}{
		{"a learner ahead", impl.Conf{Voters: []int64{5}, Learners: []int64{3}}, impl.CnLearn, 1, confOf([]int64{5}, []int64{1, 3}), 0},
		{"a learner between", some, impl.CnLearn, 5, confOf([]int64{1, 2, 3}, []int64{4, 5, 9}), 0},
		{"a learner behind", some, impl.CnLearn, 50, confOf([]int64{1, 2, 3}, []int64{4, 9, 50}), 0},
		{"the first learner", voters(2), impl.CnLearn, 1, confOf([]int64{2}, []int64{1}), 0},
		{"the seventh learner", impl.Conf{Voters: []int64{1}, Learners: countUp(11, 6)}, impl.CnLearn, 17, confOf([]int64{1}, countUp(11, 7)), 0},
		{"a learner beside seven voters", fullVoters, impl.CnLearn, 9, confOf(countUp(1, 7), []int64{8, 9, 50}), 0},
		{"promoted behind", some, impl.CnPromote, 9, confOf([]int64{1, 2, 3, 9}, []int64{4}), 0},
		{"promoted between", impl.Conf{Voters: []int64{1, 9}, Learners: []int64{4}}, impl.CnPromote, 4, voters(1, 4, 9), 0},
		{"promoted ahead", impl.Conf{Voters: []int64{5, 9}, Learners: []int64{4}}, impl.CnPromote, 4, voters(4, 5, 9), 0},
		{"the seventh voter", impl.Conf{Voters: countUp(1, 6), Learners: countUp(11, 7)}, impl.CnPromote, 11, confOf([]int64{1, 2, 3, 4, 5, 6, 11}, countUp(12, 6)), 0},
		{"the first voter removed", some, impl.CnRemove, 1, confOf([]int64{2, 3}, []int64{4, 9}), 0},
		{"the last voter removed", some, impl.CnRemove, 3, confOf([]int64{1, 2}, []int64{4, 9}), 0},
		{"one of two voters removed", voters(1, 2), impl.CnRemove, 1, voters(2), 0},
		{"a learner removed", some, impl.CnRemove, 9, confOf([]int64{1, 2, 3}, []int64{4}), 0},
		{"the only learner removed", last, impl.CnRemove, 6, voters(5), 0},
		{"of full ones a voter removed", full, impl.CnRemove, 7, confOf(countUp(1, 6), countUp(11, 7)), 0},
		{"of full ones a learner removed", full, impl.CnRemove, 11, confOf(countUp(1, 7), countUp(12, 6)), 0},

		{"kind 0", some, 0, 5, some, impl.CnForm},
		{"kind 4", some, 4, 5, some, impl.CnForm},
		{"kind -1", some, -1, 5, some, impl.CnForm},
		{"kind 10", some, 10, 5, some, impl.CnForm},
		{"id 0", some, impl.CnLearn, 0, some, impl.CnForm},
		{"id 51", some, impl.CnLearn, 51, some, impl.CnForm},
		{"id -1", some, impl.CnRemove, -1, some, impl.CnForm},
		{"id 0 promoted", some, impl.CnPromote, 0, some, impl.CnForm},
		{"a voter learns", some, impl.CnLearn, 1, some, impl.CnThere},
		{"a learner learns", some, impl.CnLearn, 4, some, impl.CnThere},
		{"a voter is promoted", some, impl.CnPromote, 2, some, impl.CnThere},
		{"a stranger is promoted", some, impl.CnPromote, 5, some, impl.CnThere},
		{"a stranger is removed", some, impl.CnRemove, 5, some, impl.CnThere},
		{"the only voter is removed", voters(1), impl.CnRemove, 1, voters(1), impl.CnLast},
		{"the only voter is removed, with learners", last, impl.CnRemove, 5, last, impl.CnLast},
		{"the eighth learner", fullLearners, impl.CnLearn, 20, fullLearners, impl.CnMany},
		{"the eighth voter", fullVoters, impl.CnPromote, 8, fullVoters, impl.CnMany},
		{"the eighth learner of full ones", full, impl.CnLearn, 20, full, impl.CnMany},
		{"the eighth voter of full ones", full, impl.CnPromote, 11, full, impl.CnMany},

		{"wrong, and no kind", voters(2, 1), 0, 0, impl.Conf{}, impl.CnConf},
		{"wrong, and there already", voters(2, 1), impl.CnLearn, 1, impl.Conf{}, impl.CnConf},
		{"eight voters, one removed", voters(countUp(1, 8)...), impl.CnRemove, 8, impl.Conf{}, impl.CnConf},
		{"no kind, there already", some, 0, 1, some, impl.CnForm},
		{"no kind, the last voter", last, 4, 5, last, impl.CnForm},
		{"no id of full ones", full, impl.CnLearn, 51, full, impl.CnForm},
		{"no kind of full ones", full, 7, 20, full, impl.CnForm},
		{"there already, of full ones", full, impl.CnLearn, 11, full, impl.CnThere},
		{"a voter there already, of full ones", full, impl.CnLearn, 1, full, impl.CnThere},
		{"no learner, of full ones", full, impl.CnPromote, 20, full, impl.CnThere},
		{"a voter promoted, of full ones", full, impl.CnPromote, 1, full, impl.CnThere},
		{"a stranger removed, one voter", last, impl.CnRemove, 7, last, impl.CnThere},
		{"the last voter, of full learners", confOf([]int64{1}, countUp(11, 7)), impl.CnRemove, 1, confOf([]int64{1}, countUp(11, 7)), impl.CnLast},
	} {
		if got, code := impl.Changed(r.c, r.kind, r.id); code != r.code || !sameConf(got, r.want) {
			t.Errorf("%s: %+v, %d", r.what, got, code)
		}
	}
	for what, c := range wrongConfs() {
		for _, kind := range []int64{0, 1, 2, 3, 4} {
			for _, id := range []int64{0, 1, 2, 50, 51} {
				if got, code := impl.Changed(c, kind, id); code != impl.CnConf || !isZeroConf(got) {
					t.Errorf("%s: %+v, %d", what, got, code)
				}
			}
		}
	}
}

// randomConf is mostly right, of few nodes, so that two of them share some.
func randomConf(r *rand.Rand, nodes int) impl.Conf {
	ids := r.Perm(nodes)
	v := 1 + r.IntN(min(7, nodes))
	l := r.IntN(min(7, nodes-v) + 1)
	var c impl.Conf
	for _, id := range ids[:v] {
		c.Voters = append(c.Voters, int64(id+1))
	}
	for _, id := range ids[v : v+l] {
		c.Learners = append(c.Learners, int64(id+1))
	}
	slices.Sort(c.Voters)
	slices.Sort(c.Learners)
	if r.IntN(8) == 0 {
		lists := [][]int64{c.Voters, c.Learners}
		if list := lists[r.IntN(2)]; len(list) > 0 {
			list[r.IntN(len(list))] = r.Int64N(54) - 1
		}
	}
	return c
}

func TestMembersAgainstTheSlowWay(t *testing.T) {
	r := rand.New(rand.NewPCG(9, 9))
	codes := map[int64]int{}
	for range 3000 {
		c := randomConf(r, []int{3, 5, 9, 14, 50}[r.IntN(5)])
		if got := impl.ConfOk(c); got != slowConfOk(c) {
			t.Fatalf("%+v: %v", c, got)
		}
		if got := impl.ConfText(c); got != slowConfText(c) {
			t.Fatalf("%+v: %q", c, got)
		}
		if back, ok := impl.ReadConf(rawConfText(c)); ok != slowConfOk(c) || ok && !sameConf(back, c) {
			t.Fatalf("%+v comes back as %+v, %v", c, back, ok)
		}
		for range 20 {
			kind, id := r.Int64N(5), r.Int64N(53)-1
			if r.IntN(2) == 0 && len(c.Voters) > 0 {
				id = c.Voters[r.IntN(len(c.Voters))]
			} else if r.IntN(2) == 0 && len(c.Learners) > 0 {
				id = c.Learners[r.IntN(len(c.Learners))]
			}
			got, code := impl.Changed(c, kind, id)
			want, wantCode := slowChanged(c, kind, id)
			if code != wantCode || !sameConf(got, want) {
				t.Fatalf("%+v, kind %d of %d: %+v, %d", c, kind, id, got, code)
			}
			codes[code]++
			if code == impl.CnOk && (!impl.ConfOk(got) || !impl.Meet(c, got) || !impl.Meet(got, c)) {
				t.Fatalf("%+v and %+v do not meet", c, got)
			}
			ids := []int64{id, r.Int64N(9), r.Int64N(9), r.Int64N(9), r.Int64N(50), 65}[:r.IntN(7)]
			if got := impl.Quorum(c, ids); got != slowQuorum(c, ids) {
				t.Fatalf("%+v, %d: %v", c, ids, got)
			}
		}
	}
	for _, code := range []int64{0, 10, 11, 12, 13, 14} {
		if codes[code] == 0 {
			t.Errorf("code %d has not come about", code)
		}
	}
}

func TestMeet(t *testing.T) {
	for _, r := range []struct {
		what string
		a, b impl.Conf
		want bool
	}{
		{"one alone", voters(1), voters(1), true},
		{"none in common", voters(1), voters(2), false},
		{"none in common, more of them", voters(1, 2, 3), voters(4, 5, 6), false},
		{"none in common, seven and one", voters(1, 2, 3, 4, 5, 6, 7), voters(8), false},
		{"the same three", voters(1, 2, 3), voters(1, 2, 3), true},
		{"the same two", voters(1, 2), voters(1, 2), true},
		{"the same seven", voters(countUp(1, 7)...), voters(countUp(1, 7)...), true},
		{"one more", voters(1, 2, 3), voters(1, 2, 3, 4), true},
		{"one more of four", voters(1, 2, 3, 4), voters(1, 2, 3, 4, 5), true},
		{"one less", voters(1, 2), voters(2), true},
		{"one exchanged of three", voters(1, 2, 3), voters(2, 3, 4), false},
		{"one exchanged of two", voters(1, 2), voters(2, 3), true},
		{"one exchanged of four", voters(1, 2, 3, 4), voters(2, 3, 4, 5), true},
		{"one exchanged of five", voters(1, 2, 3, 4, 5), voters(2, 3, 4, 5, 6), false},
		{"two more", voters(1, 2, 3), voters(1, 2, 3, 4, 5), false},
		{"two more of two", voters(1, 2), voters(1, 2, 3, 4), true},
		{"two more of one", voters(1), voters(1, 2, 3), false},
		{"one more of one", voters(1), voters(1, 2), true},
		{"one in common", voters(1, 2, 3), voters(3, 4, 5), false},
		{"one in common of two and one", voters(1, 2), voters(2), true},
		{"learners do not count", confOf([]int64{1}, []int64{2}), confOf([]int64{2}, []int64{1}), false},
		{"learners of the same", confOf([]int64{1, 2}, []int64{3}), confOf([]int64{1, 2}, []int64{4}), true},
		{"one that is not right", voters(1, 2, 3), voters(3, 2, 1), false},
		{"the other that is not right", voters(3, 2, 1), voters(1, 2, 3), false},
		{"both that are not right", voters(3, 2, 1), voters(3, 2, 1), false},
		{"nothing", impl.Conf{}, impl.Conf{}, false},
		{"nothing and one", impl.Conf{}, voters(1), false},
	} {
		if got := impl.Meet(r.a, r.b); got != r.want || slowMeet(r.a, r.b) != r.want {
			t.Errorf("%s: %v", r.what, got)
		}
		if got := impl.Meet(r.b, r.a); got != r.want {
			t.Errorf("%s, turned round: %v", r.what, got)
		}
	}
	for what, c := range wrongConfs() {
		for _, d := range []impl.Conf{c, voters(1), voters(7), {}} {
			if impl.Meet(c, d) || impl.Meet(d, c) {
				t.Errorf("%s meets %+v", what, d)
			}
		}
	}
}

func TestMeetAgainstTheSlowWay(t *testing.T) {
	r := rand.New(rand.NewPCG(9, 10))
	met := map[bool]int{}
	for range 3000 {
		nodes := []int{2, 4, 6, 8, 10}[r.IntN(5)]
		a, b := randomConf(r, nodes), randomConf(r, nodes)
		got := impl.Meet(a, b)
		if got != slowMeet(a, b) {
			t.Fatalf("%+v and %+v: %v", a, b, got)
		}
		met[got]++
	}
	if met[true] < 100 || met[false] < 100 {
		t.Error(met)
	}
}

func TestQuorumsMeetBehindOneChange(t *testing.T) {
	for n := int64(1); n <= 7; n++ {
		for l := range int64(8) {
			c := impl.Conf{Voters: countUp(3, n), Learners: countUp(30, l)}
			for kind := int64(1); kind <= 3; kind++ {
				for id := int64(1); id <= 50; id++ {
					next, code := impl.Changed(c, kind, id)
					if code != impl.CnOk {
						continue
					}
					if !impl.Meet(c, next) || !slowMeet(c, next) {
						t.Errorf("%+v and %+v do not meet", c, next)
					}
					if back, ok := impl.ReadConf(impl.ConfText(next)); !ok || !sameConf(back, next) {
						t.Errorf("%+v comes back as %+v, %v", next, back, ok)
					}
				}
			}
		}
	}
}

func roomyConf(c impl.Conf) impl.Conf {
	return impl.Conf{Voters: roomy(c.Voters, 99), Learners: roomy(c.Learners, 98)}
}

func watchConf(what string, c impl.Conf) []watch {
	return []watch{watchOver(what+"'s Voters", c.Voters), watchOver(what+"'s Learners", c.Learners)}
}

func scribbleConf(c impl.Conf) {
	scribble(c.Voters, -9)
	scribble(c.Learners, -8)
}

func TestMembersAnswersAreTheirOwn(t *testing.T) {
	changed := func(kind, id int64) func(impl.Conf) impl.Conf {
		return func(c impl.Conf) impl.Conf { d, _ := impl.Changed(c, kind, id); return d }
	}
	ids := roomy([]int64{3, 1, 50}, 97)
	calls := map[string]func(impl.Conf) impl.Conf{
		"ConfOk":             func(c impl.Conf) impl.Conf { impl.ConfOk(c); return impl.Conf{} },
		"Quorum":             func(c impl.Conf) impl.Conf { impl.Quorum(c, ids); return impl.Conf{} },
		"ConfText":           func(c impl.Conf) impl.Conf { impl.ConfText(c); return impl.Conf{} },
		"Meet":               func(c impl.Conf) impl.Conf { impl.Meet(c, c); return impl.Conf{} },
		"ReadConf":           func(c impl.Conf) impl.Conf { d, _ := impl.ReadConf(impl.ConfText(c)); return d },
		"Changed to learn":   changed(impl.CnLearn, 40),
		"Changed to promote": changed(impl.CnPromote, 4),
		"Changed to remove":  changed(impl.CnRemove, 1),
		"Changed of no form": changed(0, 1),
		"Changed of none":    changed(impl.CnRemove, 49),
	}
	confs := rightConfs()
	for what, c := range wrongConfs() {
		confs[what] = c
	}
	for what, c := range confs {
		for name, call := range calls {
			when := name + " of " + what
			argument := roomyConf(c)
			watches := append(watchConf("the argument", argument), watchOver("the ids", ids))
			answer := call(argument)
			checkWatches(t, when, watches)
			before := copyConf(answer)
			scribble(answer.Voters, -9)
			if !slices.Equal(answer.Learners, before.Learners) {
				t.Errorf("%s: both lists share memory", when)
			}
			scribbleConf(answer)
			checkWatches(t, when+", scribbled on", watches)
			if again := call(argument); !sameConf(again, before) {
				t.Errorf("%s: the same argument, another answer: %+v", when, again)
			}
		}
	}
}
