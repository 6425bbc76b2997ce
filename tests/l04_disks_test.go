package tests

import (
	"cmp"
	"fmt"
	"math"
	"math/rand/v2"
	"slices"
	"strings"
	"testing"

	"loop.example/g00141/impl"
)

func appendOp(name, data string) impl.DOp {
	return impl.DOp{Kind: impl.DkAppend, Name: name, Data: data}
}

func renameOp(name, to string) impl.DOp {
	return impl.DOp{Kind: impl.DkRename, Name: name, To: to}
}

func removeOp(name string) impl.DOp {
	return impl.DOp{Kind: impl.DkRemove, Name: name}
}

func sameDisk(a, b impl.Disk) bool {
	return slices.Equal(a.Live, b.Live) && slices.Equal(a.Safe, b.Safe) && slices.Equal(a.Ops, b.Ops)
}

func isZeroDisk(d impl.Disk) bool {
	return sameDisk(d, impl.Disk{})
}

// synced is a disk with these files and nothing done since.
func synced(files ...impl.File) impl.Disk {
	return impl.Disk{Live: slices.Clone(files), Safe: slices.Clone(files)}
}

// filesOf are n files f000, f001, .. with this Data.
func filesOf(n int, data string) []impl.File {
	var files []impl.File
	for i := range n {
		files = append(files, impl.File{Name: fmt.Sprintf("f%03d", i), Data: data})
	}
	return files
}

// appends is a disk whose file a got n bytes, each by an op.
func appends(n int) impl.Disk {
	d := impl.Disk{}
	for range n {
		d.Ops = append(d.Ops, appendOp("a", "x"))
	}
	if n > 0 {
		d.Live = []impl.File{{Name: "a", Data: strings.Repeat("x", n)}}
	}
	return d
}

// done does ops one by one, all of which have to be right.
func done(t *testing.T, d impl.Disk, ops ...impl.DOp) impl.Disk {
	t.Helper()
	for _, op := range ops {
		next, code := impl.Do(d, op)
		if code != impl.DkOk || !impl.DiskOk(next) {
			t.Fatalf("%+v: code %d", op, code)
		}
		d = next
	}
	return d
}

// slowly does one op on a list of files, and tells whether it found its file.
func slowly(files []impl.File, op impl.DOp) ([]impl.File, bool) {
	at := slices.IndexFunc(files, func(f impl.File) bool { return f.Name == op.Name })
	if at < 0 && op.Kind != impl.DkAppend {
		return files, false
	}
	files = slices.Clone(files)
	switch op.Kind {
	case impl.DkAppend:
		if at < 0 {
			files = append(files, impl.File{Name: op.Name})
			at = len(files) - 1
		}
		files[at].Data += op.Data
	case impl.DkRename:
		moved := files[at]
		moved.Name = op.To
		files = slices.DeleteFunc(files, func(f impl.File) bool { return f.Name == op.Name || f.Name == op.To })
		files = append(files, moved)
	case impl.DkRemove:
		files = slices.Delete(files, at, at+1)
	}
	slices.SortFunc(files, func(a, b impl.File) int { return cmp.Compare(a.Name, b.Name) })
	return files, true
}

// left is what a loss of power leaves of a right disk.
func left(d impl.Disk, keep []int64, torn int64) []impl.File {
	files := d.Safe
	for i, k := range keep {
		op := d.Ops[k]
		if i == len(keep)-1 && op.Kind == impl.DkAppend {
			op.Data = op.Data[:min(torn, int64(len(op.Data)))]
		}
		files, _ = slowly(files, op)
	}
	return files
}

func allPlaces(n int) []int64 {
	var places []int64
	for i := range n {
		places = append(places, int64(i))
	}
	return places
}

// choices are all lists of rising places below n.
func choices(n int) [][]int64 {
	var lists [][]int64
	for bits := range 1 << n {
		var places []int64
		for i := range n {
			if bits>>i&1 == 1 {
				places = append(places, int64(i))
			}
		}
		lists = append(lists, places)
	}
	return lists
}

func TestDiskOkOfFiles(t *testing.T) {
	name100, name101 := strings.Repeat("n", 100), strings.Repeat("n", 101)
	for _, r := range []struct {
		what  string
		files []impl.File
		want  bool
	}{
		{"no files", nil, true},
		{"an empty list", []impl.File{}, true},
		{"one file", []impl.File{{Name: "a", Data: "1"}}, true},
		{"an empty file", []impl.File{{Name: "a"}}, true},
		{"names that rise", []impl.File{{Name: "A"}, {Name: "a"}, {Name: "a\x00"}, {Name: "aa"}, {Name: "b"}, {Name: "\xff"}}, true},
		{"any bytes in a name", []impl.File{{Name: "\x00"}, {Name: "\n/ "}}, true},
		{"names that fall", []impl.File{{Name: "b"}, {Name: "a"}}, false},
		{"names that fall at the end", []impl.File{{Name: "a"}, {Name: "c"}, {Name: "b"}}, false},
		{"a longer name ahead of its beginning", []impl.File{{Name: "aa"}, {Name: "a"}}, false},
		{"one name twice", []impl.File{{Name: "a", Data: "1"}, {Name: "a", Data: "2"}}, false},
		{"one file twice", []impl.File{{Name: "a"}, {Name: "b"}, {Name: "b"}}, false},
		{"an empty name", []impl.File{{Name: ""}}, false},
		{"an empty name ahead", []impl.File{{Name: ""}, {Name: "a"}}, false},
		{"a name of 100 bytes", []impl.File{{Name: name100}}, true},
		{"a name of 101 bytes", []impl.File{{Name: name101}}, false},
		{"60 files", filesOf(60, "d"), true},
		{"61 files", filesOf(61, "d"), false},
		{"1000 files", filesOf(1000, ""), false},
		{"200000 bytes", []impl.File{{Name: "a", Data: strings.Repeat("x", 200000)}}, true},
		{"200001 bytes", []impl.File{{Name: "a", Data: strings.Repeat("x", 200001)}}, false},
		{"200000 bytes in two", []impl.File{{Name: "a", Data: strings.Repeat("x", 199999)}, {Name: "b", Data: "y"}}, true},
		{"200001 bytes in two", []impl.File{{Name: "a", Data: strings.Repeat("x", 200000)}, {Name: "b", Data: "y"}}, false},
		{"60 files of 200040 bytes", filesOf(60, strings.Repeat("x", 3334)), false},
		{"60 files of 199980 bytes", filesOf(60, strings.Repeat("x", 3333)), true},
	} {
		d := synced(r.files...)
		if got := impl.DiskOk(d); got != r.want {
			t.Errorf("%s: %v", r.what, got)
		}
		// Of files that are not so nothing is right, whatever the other list has.
		if d.Safe = nil; impl.DiskOk(d) && len(r.files) > 0 {
			t.Errorf("%s: Live alone", r.what)
		}
		if d.Live, d.Safe = nil, r.files; impl.DiskOk(d) && len(r.files) > 0 {
			t.Errorf("%s: Safe alone", r.what)
		}
	}
}

func TestDiskOkOfSafeThatOpsMend(t *testing.T) {
	for what, d := range map[string]impl.Disk{
		"a name twice":    {Safe: []impl.File{{Name: "a"}, {Name: "a"}}, Ops: []impl.DOp{removeOp("a")}},
		"names that fall": {Safe: []impl.File{{Name: "b"}, {Name: "a"}}, Ops: []impl.DOp{removeOp("a")}, Live: []impl.File{{Name: "b"}}},
		"a long name":     {Safe: []impl.File{{Name: strings.Repeat("n", 101)}}, Ops: []impl.DOp{removeOp(strings.Repeat("n", 101))}},
		"61 files":        {Safe: filesOf(61, ""), Ops: []impl.DOp{removeOp("f060")}, Live: filesOf(60, "")},
		"200001 bytes":    {Safe: filesOf(1, strings.Repeat("x", 200001)), Ops: []impl.DOp{removeOp("f000")}},
	} {
		if impl.DiskOk(d) {
			t.Error(what)
		}
	}
}

func TestDiskOkOfLiveThatIsNotMade(t *testing.T) {
	safe := []impl.File{{Name: "a", Data: "1"}, {Name: "c", Data: "3"}}
	ops := []impl.DOp{appendOp("b", "2"), renameOp("c", "d"), removeOp("a"), appendOp("d", "4")}
	live := []impl.File{{Name: "b", Data: "2"}, {Name: "d", Data: "34"}}
	if !impl.DiskOk(impl.Disk{Live: live, Safe: safe, Ops: ops}) {
		t.Fatal("a right one")
	}
	for what, d := range map[string]impl.Disk{
		"an op less":           {Live: live, Safe: safe, Ops: ops[:3]},
		"an op more":           {Live: live, Safe: safe, Ops: append(slices.Clone(ops), appendOp("b", "2"))},
		"no ops":               {Live: live, Safe: safe},
		"ops in another order": {Live: live, Safe: safe, Ops: []impl.DOp{ops[0], ops[3], ops[1], ops[2]}},
		"a file less":          {Live: live[:1], Safe: safe, Ops: ops},
		"a file more":          {Live: append(slices.Clone(live), impl.File{Name: "e"}), Safe: safe, Ops: ops},
		"other Data":           {Live: []impl.File{live[0], {Name: "d", Data: "43"}}, Safe: safe, Ops: ops},
		"another name":         {Live: []impl.File{live[0], {Name: "e", Data: "34"}}, Safe: safe, Ops: ops},
		"names that fall":      {Live: []impl.File{live[1], live[0]}, Safe: safe, Ops: ops},
		"no Live":              {Safe: safe, Ops: ops},
		"another Safe":         {Live: live, Safe: safe[:1], Ops: ops},
		"Live and Safe turned": {Live: safe, Safe: live, Ops: ops},
		"Live as Safe":         {Live: safe, Safe: safe, Ops: ops},
	} {
		if impl.DiskOk(d) {
			t.Error(what)
		}
	}
}

func TestDiskOkOfOps(t *testing.T) {
	one := []impl.File{{Name: "a", Data: "1"}}
	full := filesOf(60, "")
	fat := []impl.File{{Name: "a", Data: strings.Repeat("x", 200000)}}
	name101 := strings.Repeat("n", 101)
	for _, r := range []struct {
		what string
		live []impl.File
		safe []impl.File
		ops  []impl.DOp
		want bool
	}{
		{"an append of nothing", one, one, []impl.DOp{appendOp("a", "")}, true},
		{"an append of nothing that makes a file", []impl.File{{Name: "a"}}, nil, []impl.DOp{appendOp("a", "")}, true},
		{"a rename onto itself", one, one, []impl.DOp{renameOp("a", "a")}, true},
		{"there and gone", nil, nil, []impl.DOp{appendOp("z", "1"), removeOp("z")}, true},
		{"a remove that finds nothing", one, one, []impl.DOp{removeOp("z")}, false},
		{"a rename that finds nothing", one, one, []impl.DOp{renameOp("z", "y")}, false},
		{"a rename that finds nothing, onto itself", one, one, []impl.DOp{renameOp("z", "z")}, false},
		{"a second remove", nil, one, []impl.DOp{removeOp("a"), removeOp("a")}, false},
		{"a remove of what was renamed", []impl.File{{Name: "b", Data: "1"}}, one, []impl.DOp{renameOp("a", "b"), removeOp("a")}, false},
		{"a Kind 0", one, one, []impl.DOp{{Name: "a"}}, false},
		{"a Kind 4", one, one, []impl.DOp{{Kind: 4, Name: "a"}}, false},
		{"an append with To", one, one, []impl.DOp{{Kind: impl.DkAppend, Name: "a", To: "a"}}, false},
		{"a remove with To", nil, one, []impl.DOp{{Kind: impl.DkRemove, Name: "a", To: "a"}}, false},
		{"a remove with Data", nil, one, []impl.DOp{{Kind: impl.DkRemove, Name: "a", Data: "1"}}, false},
		{"a rename with Data", one, one, []impl.DOp{{Kind: impl.DkRename, Name: "a", To: "a", Data: "1"}}, false},
		{"a rename without To", nil, one, []impl.DOp{renameOp("a", "")}, false},
		{"an append without a name", one, one, []impl.DOp{appendOp("", "x")}, false},
		{"a long name, gone at the end", one, one, []impl.DOp{appendOp(name101, ""), removeOp(name101)}, false},
		{"a long To, gone at the end", nil, one, []impl.DOp{renameOp("a", name101), removeOp(name101)}, false},
		{"61 files within", full, full, []impl.DOp{appendOp("z", ""), removeOp("z")}, false},
		{"60 files within", full, full, []impl.DOp{renameOp("f000", "z"), renameOp("z", "f000")}, true},
		{"200001 bytes within", one, fat, []impl.DOp{appendOp("z", "1"), renameOp("z", "a")}, false},
		{"200000 bytes within", one, fat, []impl.DOp{appendOp("z", ""), renameOp("z", "a"), appendOp("a", "1")}, true},
	} {
		if got := impl.DiskOk(impl.Disk{Live: r.live, Safe: r.safe, Ops: r.ops}); got != r.want {
			t.Errorf("%s: %v", r.what, got)
		}
	}
	for n, want := range map[int]bool{0: true, 1: true, 199: true, 200: true, 201: false, 500: false} {
		if got := impl.DiskOk(appends(n)); got != want {
			t.Errorf("%d ops: %v", n, got)
		}
	}
}

func TestDoOfEachKind(t *testing.T) {
	d := synced(impl.File{Name: "a", Data: "1"}, impl.File{Name: "b", Data: "2"})
	for _, r := range []struct {
		what string
		op   impl.DOp
		live []impl.File
	}{
		{"an append", appendOp("a", "x"), []impl.File{{Name: "a", Data: "1x"}, {Name: "b", Data: "2"}}},
		{"an append of nothing", appendOp("a", ""), []impl.File{{Name: "a", Data: "1"}, {Name: "b", Data: "2"}}},
		{"an append to a new file", appendOp("aa", "x"), []impl.File{{Name: "a", Data: "1"}, {Name: "aa", Data: "x"}, {Name: "b", Data: "2"}}},
		{"an append of nothing to a new file", appendOp("A", ""), []impl.File{{Name: "A"}, {Name: "a", Data: "1"}, {Name: "b", Data: "2"}}},
		{"an append to a name of 100 bytes", appendOp(strings.Repeat("n", 100), "x"), []impl.File{{Name: "a", Data: "1"}, {Name: "b", Data: "2"}, {Name: strings.Repeat("n", 100), Data: "x"}}},
		{"a rename", renameOp("a", "c"), []impl.File{{Name: "b", Data: "2"}, {Name: "c", Data: "1"}}},
		{"a rename onto a file that is there", renameOp("a", "b"), []impl.File{{Name: "b", Data: "1"}}},
		{"a rename onto itself", renameOp("a", "a"), []impl.File{{Name: "a", Data: "1"}, {Name: "b", Data: "2"}}},
		{"a rename to a name of 100 bytes", renameOp("a", strings.Repeat("n", 100)), []impl.File{{Name: "b", Data: "2"}, {Name: strings.Repeat("n", 100), Data: "1"}}},
		{"a remove", removeOp("a"), []impl.File{{Name: "b", Data: "2"}}},
	} {
		got, code := impl.Do(d, r.op)
		if code != impl.DkOk || !sameDisk(got, impl.Disk{Live: r.live, Safe: d.Safe, Ops: []impl.DOp{r.op}}) || !impl.DiskOk(got) {
			t.Errorf("%s: %+v, code %d", r.what, got, code)
		}
	}
	e := done(t, d, appendOp("c", "3"), renameOp("c", "a"), removeOp("b"), appendOp("b", "new"))
	want := impl.Disk{
		Live: []impl.File{{Name: "a", Data: "3"}, {Name: "b", Data: "new"}},
		Safe: d.Safe,
		Ops:  []impl.DOp{appendOp("c", "3"), renameOp("c", "a"), removeOp("b"), appendOp("b", "new")},
	}
	if !sameDisk(e, want) {
		t.Errorf("one behind the other: %+v", e)
	}
}

func TestDoRefuses(t *testing.T) {
	name101 := strings.Repeat("n", 101)
	small := done(t, synced(impl.File{Name: "a", Data: "1"}, impl.File{Name: "gone"}), removeOp("gone"))
	busy := appends(200)
	many := synced(filesOf(60, "")...)
	fat := synced(impl.File{Name: "a", Data: strings.Repeat("x", 200000)})
	broken := impl.Disk{Live: []impl.File{{Name: "a"}}}
	for _, r := range []struct {
		what string
		d    impl.Disk
		op   impl.DOp
		code int64
	}{
		{"a disk that is not right", broken, appendOp("a", "x"), impl.DkDisk},
		{"201 ops", appends(201), appendOp("a", "x"), impl.DkDisk},
		{"a Kind 0", small, impl.DOp{Name: "a"}, impl.DkForm},
		{"a Kind 4", small, impl.DOp{Kind: 4, Name: "a"}, impl.DkForm},
		{"a Kind -1", small, impl.DOp{Kind: -1, Name: "a"}, impl.DkForm},
		{"a great Kind", small, impl.DOp{Kind: 1<<32 + 1, Name: "a"}, impl.DkForm},
		{"an append without a name", small, appendOp("", "x"), impl.DkForm},
		{"an append to a long name", small, appendOp(name101, "x"), impl.DkForm},
		{"a rename without a name", small, renameOp("", "a"), impl.DkForm},
		{"a rename of a long name", small, renameOp(name101, "a"), impl.DkForm},
		{"a rename without To", small, renameOp("a", ""), impl.DkForm},
		{"a rename to a long name", small, renameOp("a", name101), impl.DkForm},
		{"a rename with Data", small, impl.DOp{Kind: impl.DkRename, Name: "a", To: "b", Data: "x"}, impl.DkForm},
		{"a remove without a name", small, removeOp(""), impl.DkForm},
		{"a remove of a long name", small, removeOp(name101), impl.DkForm},
		{"a remove with To", small, impl.DOp{Kind: impl.DkRemove, Name: "a", To: "b"}, impl.DkForm},
		{"a remove with Data", small, impl.DOp{Kind: impl.DkRemove, Name: "a", Data: "x"}, impl.DkForm},
		{"an append with To", small, impl.DOp{Kind: impl.DkAppend, Name: "a", To: "b", Data: "x"}, impl.DkForm},
		{"a rename of no file", small, renameOp("z", "a"), impl.DkNone},
		{"a rename of no file onto itself", small, renameOp("z", "z"), impl.DkNone},
		{"a rename of a file that is in Safe alone", small, renameOp("gone", "a"), impl.DkNone},
		{"a remove of no file", small, removeOp("z"), impl.DkNone},
		{"a remove of a file that is in Safe alone", small, removeOp("gone"), impl.DkNone},
		{"an append as the op 201", busy, appendOp("a", ""), impl.DkFull},
		{"a rename as the op 201", busy, renameOp("a", "a"), impl.DkFull},
		{"a remove as the op 201", busy, removeOp("a"), impl.DkFull},
		{"a file 61", many, appendOp("z", ""), impl.DkFull},
		{"a byte 200001", fat, appendOp("a", "y"), impl.DkFull},
		{"a byte 200001 in a new file", fat, appendOp("b", "y"), impl.DkFull},
		{"200001 bytes at once", impl.Disk{}, appendOp("b", strings.Repeat("y", 200001)), impl.DkFull},
		{"disk and form", broken, impl.DOp{}, impl.DkDisk},
		{"disk and none", broken, removeOp("z"), impl.DkDisk},
		{"disk and full", appends(201), removeOp("z"), impl.DkDisk},
		{"form and none", small, impl.DOp{Kind: impl.DkRemove, Name: "z", Data: "x"}, impl.DkForm},
		{"form and none, a rename", small, renameOp("z", name101), impl.DkForm},
		{"form and full", busy, impl.DOp{Kind: 7, Name: "a"}, impl.DkForm},
		{"form and full of bytes", fat, impl.DOp{Kind: impl.DkAppend, Name: "a", To: "a", Data: "y"}, impl.DkForm},
		{"form and full of files", many, appendOp(name101, ""), impl.DkForm},
		{"none and full", busy, removeOp("z"), impl.DkNone},
		{"none and full, a rename", busy, renameOp("z", "a"), impl.DkNone},
	} {
		want := r.d
		if r.code == impl.DkDisk {
			want = impl.Disk{}
		}
		if got, code := impl.Do(r.d, r.op); code != r.code || !sameDisk(got, want) {
			t.Errorf("%s: code %d, not %d; %d files, %d ops", r.what, code, r.code, len(got.Live), len(got.Ops))
		}
	}
}

func TestDoAtTheLimits(t *testing.T) {
	d := done(t, appends(199), appendOp("a", "y"))
	if len(d.Ops) != 200 {
		t.Error("the op 200")
	}
	done(t, synced(filesOf(59, "")...), appendOp("z", ""))
	many := done(t, synced(filesOf(60, "")...), appendOp("f059", "x"), renameOp("f000", "z"), renameOp("z", "z"), removeOp("f059"), appendOp("y", ""))
	if len(many.Live) != 60 {
		t.Error("60 files")
	}
	done(t, synced(impl.File{Name: "a", Data: strings.Repeat("x", 199999)}), appendOp("a", "y"), appendOp("b", ""), renameOp("a", "c"))
	done(t, impl.Disk{}, appendOp("b", strings.Repeat("y", 200000)), renameOp("b", "c"), removeOp("c"), appendOp("d", strings.Repeat("y", 200000)))
}

func TestSync(t *testing.T) {
	d := done(t, synced(impl.File{Name: "a", Data: "1"}, impl.File{Name: "b"}), removeOp("b"), appendOp("c", "3"))
	want := synced(impl.File{Name: "a", Data: "1"}, impl.File{Name: "c", Data: "3"})
	if got := impl.Sync(d); !sameDisk(got, want) {
		t.Errorf("%+v", got)
	}
	if got := impl.Sync(want); !sameDisk(got, want) {
		t.Errorf("once more: %+v", got)
	}
	if !isZeroDisk(impl.Sync(impl.Disk{})) {
		t.Error("the zero value")
	}
	for _, d := range []impl.Disk{appends(201), {Live: filesOf(1, "")}, {Safe: filesOf(1, "")}, synced(filesOf(61, "")...)} {
		if !isZeroDisk(impl.Sync(d)) {
			t.Error("a disk that is not right")
		}
	}
	busy := impl.Sync(appends(200))
	if busy = done(t, busy, appendOp("a", "y")); len(busy.Ops) != 1 || len(busy.Safe) != 1 {
		t.Error("room for ops behind Sync")
	}
}

func checkCrash(t *testing.T, what string, d impl.Disk, keep []int64, torn int64, want []impl.File) {
	t.Helper()
	got, ok := impl.Crash(d, keep, torn)
	if !ok || !slices.Equal(got.Live, want) || !slices.Equal(got.Safe, want) || len(got.Ops) != 0 || !impl.DiskOk(got) {
		t.Errorf("%s: keep %v, torn %d: %+v, %v", what, keep, torn, got, ok)
	}
}

func TestCrashByHand(t *testing.T) {
	d := done(t, synced(impl.File{Name: "a", Data: "1"}), appendOp("b", "bcd"), renameOp("b", "c"), appendOp("c", "ef"), removeOp("a"), appendOp("a", "new"))
	a := impl.File{Name: "a", Data: "1"}
	for _, r := range []struct {
		what string
		keep []int64
		torn int64
		want []impl.File
	}{
		{"none", nil, 0, []impl.File{a}},
		{"none, an empty list", []int64{}, 7, []impl.File{a}},
		{"all", []int64{0, 1, 2, 3, 4}, 3, []impl.File{{Name: "a", Data: "new"}, {Name: "c", Data: "bcdef"}}},
		{"all, torn far beyond", []int64{0, 1, 2, 3, 4}, math.MaxInt64, []impl.File{{Name: "a", Data: "new"}, {Name: "c", Data: "bcdef"}}},
		{"all, torn by one", []int64{0, 1, 2, 3, 4}, 2, []impl.File{{Name: "a", Data: "ne"}, {Name: "c", Data: "bcdef"}}},
		{"all, torn to nothing", []int64{0, 1, 2, 3, 4}, 0, []impl.File{{Name: "a"}, {Name: "c", Data: "bcdef"}}},
		{"one, whole", []int64{0}, 3, []impl.File{a, {Name: "b", Data: "bcd"}}},
		{"one, torn beyond", []int64{0}, 4, []impl.File{a, {Name: "b", Data: "bcd"}}},
		{"one, torn within", []int64{0}, 1, []impl.File{a, {Name: "b", Data: "b"}}},
		{"one, torn to nothing", []int64{0}, 0, []impl.File{a, {Name: "b"}}},
		{"torn where the last is a rename", []int64{0, 1}, 0, []impl.File{a, {Name: "c", Data: "bcd"}}},
		{"torn where the last is a remove", []int64{0, 3}, 0, []impl.File{{Name: "b", Data: "bcd"}}},
		{"the last alone is torn", []int64{0, 1, 2}, 1, []impl.File{a, {Name: "c", Data: "bcde"}}},
		{"the rename finds no file", []int64{1}, 0, []impl.File{a}},
		{"the rename finds no file, the append does", []int64{1, 2}, 9, []impl.File{a, {Name: "c", Data: "ef"}}},
		{"an append torn onto an old file", []int64{4}, 1, []impl.File{{Name: "a", Data: "1n"}}},
		{"an append onto an old file", []int64{4}, 3, []impl.File{{Name: "a", Data: "1new"}}},
		{"the append without its rename", []int64{0, 2}, 2, []impl.File{a, {Name: "b", Data: "bcd"}, {Name: "c", Data: "ef"}}},
	} {
		checkCrash(t, r.what, d, r.keep, r.torn, r.want)
		if !slices.Equal(left(d, r.keep, r.torn), r.want) {
			t.Errorf("%s: the slow way tells something else", r.what)
		}
	}
	e := done(t, impl.Disk{}, appendOp("a", "1"), removeOp("a"), appendOp("b", "2"), renameOp("b", "b"))
	checkCrash(t, "the remove finds no file", e, []int64{1}, 0, nil)
	checkCrash(t, "the remove finds no file, the append comes", e, []int64{1, 2, 3}, 0, []impl.File{{Name: "b", Data: "2"}})
	checkCrash(t, "the rename onto itself finds no file", e, []int64{0, 3}, 0, []impl.File{{Name: "a", Data: "1"}})
	checkCrash(t, "a disk without ops", synced(a), nil, 0, []impl.File{a})
	checkCrash(t, "the zero value", impl.Disk{}, nil, 0, nil)
}

func TestCrashRefuses(t *testing.T) {
	d := done(t, synced(impl.File{Name: "a", Data: "1"}), appendOp("a", "x"), appendOp("a", "y"), appendOp("b", "z"))
	for _, r := range []struct {
		what string
		d    impl.Disk
		keep []int64
		torn int64
	}{
		{"a disk that is not right", impl.Disk{Live: filesOf(1, "")}, nil, 0},
		{"a disk with 201 ops", appends(201), []int64{0}, 0},
		{"keep falls", d, []int64{1, 0}, 0},
		{"keep falls at the end", d, []int64{0, 2, 1}, 0},
		{"a place twice", d, []int64{1, 1}, 0},
		{"a place twice at the end", d, []int64{0, 1, 1}, 5},
		{"a place behind the ops", d, []int64{3}, 0},
		{"a place behind the ops, the last one", d, []int64{0, 1, 2, 3}, 0},
		{"a place far behind", d, []int64{math.MaxInt64}, 0},
		{"a place of another size", d, []int64{1 << 32}, 0},
		{"a place below 0", d, []int64{-1}, 0},
		{"a place below 0 ahead", d, []int64{-1, 0, 1}, 0},
		{"the least place", d, []int64{math.MinInt64, 0}, 0},
		{"a place where there are no ops", impl.Disk{}, []int64{0}, 0},
		{"torn below 0", d, []int64{0}, -1},
		{"torn below 0 with nothing kept", d, nil, -1},
		{"torn below 0 where the last is no append", done(t, d, removeOp("b")), []int64{3}, -1},
		{"torn far below 0", d, []int64{0, 1, 2}, math.MinInt64},
	} {
		if got, ok := impl.Crash(r.d, r.keep, r.torn); ok || !isZeroDisk(got) {
			t.Errorf("%s: %+v, %v", r.what, got, ok)
		}
	}
}

func TestCrashWithTooMuch(t *testing.T) {
	refused := func(what string, d impl.Disk, keep []int64, torn int64) {
		t.Helper()
		if got, ok := impl.Crash(d, keep, torn); ok || !isZeroDisk(got) {
			t.Errorf("%s: %d files, %v", what, len(got.Live), ok)
		}
	}
	full := filesOf(60, "d")
	many := done(t, synced(full...), removeOp("f000"), appendOp("z", "1"), removeOp("f001"))
	refused("61 files", many, []int64{1}, 9)
	refused("61 files, torn to nothing", many, []int64{1}, 0)
	checkCrash(t, "60 files", many, []int64{0, 1}, 9, append(slices.Clone(full[1:]), impl.File{Name: "z", Data: "1"}))
	checkCrash(t, "59 files", many, []int64{0, 1, 2}, 9, append(slices.Clone(full[2:]), impl.File{Name: "z", Data: "1"}))
	checkCrash(t, "60 files at the end", many, []int64{1, 2}, 9, left(many, []int64{1, 2}, 9))

	old := impl.File{Name: "a", Data: strings.Repeat("x", 200000)}
	fat := done(t, synced(old), removeOp("a"), appendOp("b", strings.Repeat("y", 200000)))
	refused("400000 bytes", fat, []int64{1}, 200000)
	refused("200001 bytes", fat, []int64{1}, 1)
	checkCrash(t, "200000 bytes", fat, []int64{1}, 0, []impl.File{old, {Name: "b"}})
	checkCrash(t, "200000 other bytes", fat, []int64{0, 1}, 200000, []impl.File{{Name: "b", Data: strings.Repeat("y", 200000)}})

	grown := done(t, synced(impl.File{Name: "a", Data: strings.Repeat("x", 150000)}), removeOp("a"), appendOp("a", strings.Repeat("y", 60000)))
	refused("one file of 200001 bytes", grown, []int64{1}, 50001)
	checkCrash(t, "one file of 200000 bytes", grown, []int64{1}, 50000, []impl.File{{Name: "a", Data: strings.Repeat("x", 150000) + strings.Repeat("y", 50000)}})
}

// randomOp is an op of its form, on few names, so that they meet.
func randomOp(r *rand.Rand) impl.DOp {
	names := []string{"a", "aa", "b", "b.new", "log", "vote"}
	name, to := names[r.IntN(len(names))], names[r.IntN(len(names))]
	switch r.IntN(4) {
	case 0:
		return renameOp(name, to)
	case 1:
		return removeOp(name)
	}
	at, size := r.IntN(200), r.IntN(10)
	return appendOp(name, mixedBytes(300)[at:at+size])
}

func TestDisksAgainstTheSlowWay(t *testing.T) {
	r := rand.New(rand.NewPCG(4, 4))
	for range 300 {
		d := impl.Disk{}
		for range r.IntN(25) {
			op := randomOp(r)
			live, found := slowly(d.Live, op)
			next, code := impl.Do(d, op)
			want, wantCode := impl.Disk{Live: live, Safe: d.Safe, Ops: append(slices.Clone(d.Ops), op)}, int64(impl.DkOk)
			if !found {
				want, wantCode = d, impl.DkNone
			}
			if code != wantCode || !sameDisk(next, want) || !impl.DiskOk(next) {
				t.Fatalf("%+v on %+v: %+v, code %d", op, d, next, code)
			}
			d = next
			if r.IntN(12) == 0 {
				d = impl.Sync(d)
			}
		}
		checkPromiseOfPower(t, r, d)
	}
}

// checkPromiseOfPower loses power in all, in no and in some of the ways.
func checkPromiseOfPower(t *testing.T, r *rand.Rand, d impl.Disk) {
	t.Helper()
	all := allPlaces(len(d.Ops))
	checkCrash(t, "all kept, whole", d, all, math.MaxInt64, d.Live)
	checkCrash(t, "none kept", d, nil, 0, d.Safe)
	for range 30 {
		keep := slices.DeleteFunc(slices.Clone(all), func(int64) bool { return r.IntN(3) == 0 })
		torn := r.Int64N(12)
		checkCrash(t, "some kept", d, keep, torn, left(d, keep, torn))
	}
	for _, f := range d.Live {
		if s, ok := impl.ReadFile(d, f.Name); s != f.Data || !ok {
			t.Errorf("ReadFile(%q) is %q, %v", f.Name, s, ok)
		}
	}
}

func TestReadFile(t *testing.T) {
	d := done(t, synced(impl.File{Name: "a", Data: "1"}, impl.File{Name: "b", Data: "2"}, impl.File{Name: "e"}), removeOp("b"), appendOp("a", "x"), appendOp("c", "3"))
	for _, r := range []struct {
		name, data string
		ok         bool
	}{
		{"a", "1x", true}, {"b", "", false}, {"c", "3", true}, {"e", "", true},
		{"", "", false}, {"z", "", false}, {"aa", "", false}, {"A", "", false}, {strings.Repeat("a", 101), "", false},
	} {
		if s, ok := impl.ReadFile(d, r.name); s != r.data || ok != r.ok {
			t.Errorf("ReadFile(%q) is %q, %v", r.name, s, ok)
		}
	}
	broken := []impl.Disk{
		{Live: d.Live, Safe: d.Safe},
		{Live: d.Live},
		synced(impl.File{Name: "b"}, impl.File{Name: "a", Data: "1"}),
		appends(201),
	}
	for _, d := range broken {
		if s, ok := impl.ReadFile(d, "a"); s != "" || ok {
			t.Errorf("of a disk that is not right: %q, %v", s, ok)
		}
	}
}

func TestReplaceByHand(t *testing.T) {
	a, b := impl.File{Name: "a", Data: "old"}, impl.File{Name: "b", Data: "2"}
	for _, r := range []struct {
		what  string
		files []impl.File
		data  string
		ops   []impl.DOp
		live  []impl.File
	}{
		{"an old file", []impl.File{a, b}, "new", []impl.DOp{appendOp("a.new", "new"), renameOp("a.new", "a")}, []impl.File{{Name: "a", Data: "new"}, b}},
		{"no old file", []impl.File{b}, "new", []impl.DOp{appendOp("a.new", "new"), renameOp("a.new", "a")}, []impl.File{{Name: "a", Data: "new"}, b}},
		{"nothing at all", nil, "", []impl.DOp{appendOp("a.new", ""), renameOp("a.new", "a")}, []impl.File{{Name: "a"}}},
		{"by nothing", []impl.File{a}, "", []impl.DOp{appendOp("a.new", ""), renameOp("a.new", "a")}, []impl.File{{Name: "a"}}},
		{"a.new is there", []impl.File{a, {Name: "a.new", Data: "torn"}}, "new", []impl.DOp{removeOp("a.new"), appendOp("a.new", "new"), renameOp("a.new", "a")}, []impl.File{{Name: "a", Data: "new"}}},
		{"a.new is there, and empty", []impl.File{{Name: "a.new"}}, "new", []impl.DOp{removeOp("a.new"), appendOp("a.new", "new"), renameOp("a.new", "a")}, []impl.File{{Name: "a", Data: "new"}}},
		{"another .new is there", []impl.File{a, {Name: "b.new", Data: "torn"}}, "new", []impl.DOp{appendOp("a.new", "new"), renameOp("a.new", "a")}, []impl.File{{Name: "a", Data: "new"}, {Name: "b.new", Data: "torn"}}},
	} {
		d := synced(r.files...)
		got, code := impl.Replace(d, "a", r.data)
		if code != impl.DkOk || !sameDisk(got, impl.Disk{Live: r.live, Safe: d.Safe, Ops: r.ops}) {
			t.Errorf("%s: %+v, code %d", r.what, got, code)
		}
	}
	d := done(t, synced(a, impl.File{Name: "a.new", Data: "torn"}), removeOp("a.new"))
	got, code := impl.Replace(d, "a", "new")
	if code != impl.DkOk || !slices.Equal(got.Ops, []impl.DOp{removeOp("a.new"), appendOp("a.new", "new"), renameOp("a.new", "a")}) {
		t.Errorf("a.new in Safe alone: %+v, code %d", got, code)
	}
}

func TestReplaceRefuses(t *testing.T) {
	name96, name97 := strings.Repeat("n", 96), strings.Repeat("n", 97)
	half := strings.Repeat("x", 100000)
	fresh := func(n int) impl.Disk {
		d := appends(n - 1)
		d.Ops = append(d.Ops, appendOp("b.new", "torn"))
		d.Live = append(d.Live, impl.File{Name: "b.new", Data: "torn"})
		return d
	}
	lastFresh := append(filesOf(59, ""), impl.File{Name: "z.new"})
	for _, r := range []struct {
		what       string
		d          impl.Disk
		name, data string
		code       int64
	}{
		{"a disk that is not right", impl.Disk{Live: filesOf(1, "")}, "a", "x", impl.DkDisk},
		{"disk and form", appends(201), "", "x", impl.DkDisk},
		{"a name of 96 bytes", impl.Disk{}, name96, "x", impl.DkOk},
		{"a name of 97 bytes", impl.Disk{}, name97, "x", impl.DkForm},
		{"a name of 97 bytes that is there", synced(impl.File{Name: name97}), name97, "x", impl.DkForm},
		{"a name of 101 bytes", impl.Disk{}, strings.Repeat("n", 101), "x", impl.DkForm},
		{"no name", impl.Disk{}, "", "x", impl.DkForm},
		{"no name, .new is there", synced(impl.File{Name: ".new", Data: "1"}), "", "x", impl.DkForm},
		{"no name, and full ahead of that", appends(200), "", "x", impl.DkFull},
		{"a long name, and full", appends(200), name97, "x", impl.DkForm},
		{"198 ops", appends(198), "b", "x", impl.DkOk},
		{"199 ops", appends(199), "b", "x", impl.DkFull},
		{"200 ops", appends(200), "b", "x", impl.DkFull},
		{"197 ops, with b.new", fresh(197), "b", "x", impl.DkOk},
		{"198 ops, with b.new", fresh(198), "b", "x", impl.DkFull},
		{"199 ops, with b.new", fresh(199), "b", "x", impl.DkFull},
		{"200 ops, with b.new", fresh(200), "b", "x", impl.DkFull},
		{"59 files", synced(filesOf(59, "")...), "f000", "x", impl.DkOk},
		{"60 files", synced(filesOf(60, "")...), "f000", "x", impl.DkFull},
		{"60 files, with z.new", synced(lastFresh...), "z", "x", impl.DkOk},
		{"the old and the new of 200000 bytes", synced(impl.File{Name: "a", Data: half}), "a", half, impl.DkOk},
		{"the old and the new of 200001 bytes", synced(impl.File{Name: "a", Data: half}), "a", half + "y", impl.DkFull},
		{"room where a.new was", synced(impl.File{Name: "a", Data: half}, impl.File{Name: "a.new", Data: half}), "a", half, impl.DkOk},
		{"no room though a.new goes", synced(impl.File{Name: "a", Data: half}, impl.File{Name: "a.new", Data: half}), "a", half + "y", impl.DkFull},
		{"200001 bytes", impl.Disk{}, "a", half + half + "y", impl.DkFull},
	} {
		if r.code != impl.DkDisk && !impl.DiskOk(r.d) {
			t.Fatalf("%s: the disk is not right", r.what)
		}
		got, code := impl.Replace(r.d, r.name, r.data)
		if code != r.code {
			t.Errorf("%s: code %d, not %d", r.what, code, r.code)
		}
		switch r.code {
		case impl.DkDisk:
			if !isZeroDisk(got) {
				t.Errorf("%s: %+v", r.what, got)
			}
		case impl.DkOk:
			if s, ok := impl.ReadFile(got, r.name); s != r.data || !ok || !impl.DiskOk(got) {
				t.Errorf("%s: not replaced", r.what)
			}
		default:
			if !sameDisk(got, r.d) {
				t.Errorf("%s: not the disk as it was", r.what)
			}
		}
	}
}

func TestReplaceBehindEveryLossOfPower(t *testing.T) {
	b := impl.File{Name: "b", Data: "2"}
	for _, data := range []string{"", "n", "new data"} {
		for _, files := range [][]impl.File{nil, {b}, {{Name: "a"}}, {{Name: "a", Data: "old"}, b}, {{Name: "a", Data: "new data"}}} {
			d := impl.Disk{Live: files, Safe: files}
			old, was := impl.ReadFile(d, "a")
			r, code := impl.Replace(d, "a", data)
			if code != impl.DkOk || len(r.Ops) != 2 {
				t.Fatal(code, r)
			}
			for _, keep := range choices(len(r.Ops)) {
				for torn := range int64(len(data)) + 2 {
					e, ok := impl.Crash(r, keep, torn)
					s, is := impl.ReadFile(e, "a")
					isOld, isNew := s == old && is == was, s == data && is
					if !ok || !isOld && !isNew || len(keep) == 2 && !isNew || len(keep) < 2 && !isOld {
						t.Errorf("%q by %q, keep %v, torn %d: %q, %v", old, data, keep, torn, s, is)
					}
					if other, _ := impl.ReadFile(e, "b"); slices.Contains(files, b) && other != b.Data {
						t.Errorf("another file is %q", other)
					}
					checkCrash(t, "behind Replace", r, keep, torn, left(r, keep, torn))
				}
			}
		}
	}
	d := synced(impl.File{Name: "a", Data: "old"}, impl.File{Name: "a.new", Data: "torn"})
	r, _ := impl.Replace(d, "a", "new")
	for _, keep := range choices(len(r.Ops)) {
		for torn := range int64(5) {
			checkCrash(t, "with a.new", r, keep, torn, left(r, keep, torn))
		}
	}
	checkCrash(t, "with a.new that was not removed", r, []int64{1, 2}, 0, []impl.File{{Name: "a", Data: "tornnew"}})
}

func roomyDisk(d impl.Disk) impl.Disk {
	spare := impl.File{Name: "spare", Data: "spare"}
	return impl.Disk{Live: roomy(d.Live, spare), Safe: roomy(d.Safe, spare), Ops: roomy(d.Ops, removeOp("spare"))}
}

func watchDisk(what string, d impl.Disk) []watch {
	return []watch{watchOver(what+" Live", d.Live), watchOver(what+" Safe", d.Safe), watchOver(what+" Ops", d.Ops)}
}

func TestDiskAnswersAreTheirOwn(t *testing.T) {
	changed := impl.File{Name: "changed", Data: "changed"}
	plain := done(t, synced(impl.File{Name: "a", Data: "1"}, impl.File{Name: "b.new"}), appendOp("b", "2"), removeOp("a"), appendOp("b", "3"))
	keep := roomy([]int64{0, 2}, 99)
	kept := watchOver("keep", keep)
	calls := map[string]func(impl.Disk) impl.Disk{
		"Do":              func(d impl.Disk) impl.Disk { e, _ := impl.Do(d, appendOp("c", "x")); return e },
		"Do DkForm":       func(d impl.Disk) impl.Disk { e, _ := impl.Do(d, impl.DOp{}); return e },
		"Do DkNone":       func(d impl.Disk) impl.Disk { e, _ := impl.Do(d, removeOp("z")); return e },
		"Do DkFull":       func(d impl.Disk) impl.Disk { e, _ := impl.Do(d, appendOp("b", strings.Repeat("x", 200001))); return e },
		"Do rename":       func(d impl.Disk) impl.Disk { e, _ := impl.Do(d, renameOp("b", "b")); return e },
		"Sync":            impl.Sync,
		"Crash":           func(d impl.Disk) impl.Disk { e, _ := impl.Crash(d, keep[:min(len(d.Ops), 1)], 0); return e },
		"Crash, none":     func(d impl.Disk) impl.Disk { e, _ := impl.Crash(d, nil, 0); return e },
		"Crash, refused":  func(d impl.Disk) impl.Disk { e, _ := impl.Crash(d, keep, -1); return e },
		"Replace":         func(d impl.Disk) impl.Disk { e, _ := impl.Replace(d, "b", "x"); return e },
		"Replace DkForm":  func(d impl.Disk) impl.Disk { e, _ := impl.Replace(d, "", "x"); return e },
		"Replace refused": func(d impl.Disk) impl.Disk { e, _ := impl.Replace(d, "b", strings.Repeat("x", 200001)); return e },
		"DiskOk":          func(d impl.Disk) impl.Disk { impl.DiskOk(d); return impl.Disk{} },
		"ReadFile":        func(d impl.Disk) impl.Disk { impl.ReadFile(d, "b"); return impl.Disk{} },
	}
	for _, d := range []impl.Disk{{}, plain, impl.Sync(plain), {Live: plain.Live}, appends(200)} {
		for name, call := range calls {
			argument := roomyDisk(d)
			watches := append(watchDisk("the argument's", argument), kept)
			answer := call(argument)
			checkWatches(t, name, watches)
			first := impl.Disk{Live: slices.Clone(answer.Live), Safe: slices.Clone(answer.Safe), Ops: slices.Clone(answer.Ops)}
			lists := watchDisk("the answer's", answer)
			scribble(answer.Live, changed)
			checkWatches(t, name+", Live scribbled on", slices.Concat(lists[1:], watches))
			scribble(answer.Ops, removeOp("changed"))
			checkWatches(t, name+", Ops scribbled on", slices.Concat(lists[1:2], watches))
			scribble(answer.Safe, changed)
			checkWatches(t, name+", Safe scribbled on", watches)
			if again := call(argument); !sameDisk(again, first) {
				t.Errorf("%s: the same argument, another answer: %+v", name, again)
			}
		}
	}
}
