package tests

import (
	"fmt"
	"math"
	"math/rand/v2"
	"slices"
	"strings"
	"testing"

	"loop.example/g00141/impl"
)

// blobsOf are the blobs with these Data, by their digests.
func blobsOf(datas ...string) []impl.Blob {
	var blobs []impl.Blob
	for _, data := range datas {
		blobs = append(blobs, impl.Blob{Digest: digestOf(data), Data: data})
	}
	slices.SortFunc(blobs, func(a, b impl.Blob) int { return strings.Compare(a.Digest, b.Digest) })
	return blobs
}

// manyBlobs are n blobs of two bytes each.
func manyBlobs(n int) []impl.Blob {
	var datas []string
	for i := range n {
		datas = append(datas, fmt.Sprintf("%02d", i))
	}
	return blobsOf(datas...)
}

// manyUploads are n uploads with the Ids 1, 2, .. and this Data.
func manyUploads(n int, data string) []impl.Upload {
	var uploads []impl.Upload
	for i := range n {
		uploads = append(uploads, impl.Upload{Id: int64(i + 1), Data: data})
	}
	return uploads
}

func sameStore(a, b impl.Store) bool {
	return a.Quota == b.Quota && a.Next == b.Next && slices.Equal(a.Blobs, b.Blobs) && slices.Equal(a.Uploads, b.Uploads)
}

func isZeroStore(s impl.Store) bool {
	return sameStore(s, impl.Store{})
}

func copyStore(s impl.Store) impl.Store {
	s.Blobs, s.Uploads = slices.Clone(s.Blobs), slices.Clone(s.Uploads)
	return s
}

// checkRefused asks for the store as it was, or the zero value with BlStore.
func checkRefused(t *testing.T, what string, before, after impl.Store, code, want int64) {
	t.Helper()
	if code != want {
		t.Errorf("%s: code %d, not %d", what, code, want)
	}
	if want == impl.BlStore && !isZeroStore(after) {
		t.Errorf("%s: not the zero value", what)
	}
	if want != impl.BlStore && !sameStore(after, before) {
		t.Errorf("%s: not the store as it was", what)
	}
}

func checkDone(t *testing.T, what string, got impl.Store, code int64, want impl.Store) {
	t.Helper()
	if code != impl.BlOk || !sameStore(got, want) {
		t.Errorf("%s: %+v, code %d; wanted %+v", what, got, code, want)
	}
	if !impl.StoreOk(got) {
		t.Errorf("%s: the store is not right then", what)
	}
}

func TestStoreOkOfNumbers(t *testing.T) {
	for quota, want := range map[int64]bool{
		-1: false, 0: true, 1: true, 199999: true, 200000: true, 200001: false, math.MinInt64: false, math.MaxInt64: false,
	} {
		if got := impl.StoreOk(impl.Store{Quota: quota, Next: 1}); got != want {
			t.Errorf("Quota %d: %v", quota, got)
		}
	}
	for next, want := range map[int64]bool{
		-1: false, 0: false, 1: true, 2: true, impl.MaxNumber: true, impl.MaxNumber + 1: false, math.MinInt64: false, math.MaxInt64: false,
	} {
		if got := impl.StoreOk(impl.Store{Next: next}); got != want {
			t.Errorf("Next %d: %v", next, got)
		}
	}
}

func TestStoreOkOfBlobs(t *testing.T) {
	three := manyBlobs(3)
	wrong := func(at int, b impl.Blob) []impl.Blob {
		blobs := slices.Clone(three)
		blobs[at] = b
		return blobs
	}
	upper := strings.ToUpper(three[2].Digest[7:])
	for _, r := range []struct {
		what  string
		blobs []impl.Blob
		want  bool
	}{
		{"none", nil, true},
		{"an empty list", []impl.Blob{}, true},
		{"one", three[:1], true},
		{"an empty one", blobsOf(""), true},
		{"three", three, true},
		{"turned round", []impl.Blob{three[1], three[0]}, false},
		{"the last two turned round", []impl.Blob{three[0], three[2], three[1]}, false},
		{"the first two turned round", []impl.Blob{three[1], three[0], three[2]}, false},
		{"one twice", []impl.Blob{three[0], three[0]}, false},
		{"the last one twice", []impl.Blob{three[0], three[1], three[1]}, false},
		{"the first one with other Data", wrong(0, impl.Blob{Digest: three[0].Digest, Data: "zz"}), false},
		{"the last one with other Data", wrong(2, impl.Blob{Digest: three[2].Digest, Data: "zz"}), false},
		{"Data of another blob", wrong(1, impl.Blob{Digest: three[1].Digest, Data: three[0].Data}), false},
		{"Data that is empty", wrong(1, impl.Blob{Digest: three[1].Digest}), false},
		{"no digest", []impl.Blob{{Data: "x"}}, false},
		{"nothing", []impl.Blob{{}}, false},
		{"a digest in great letters", wrong(2, impl.Blob{Digest: "sha256:" + upper, Data: three[2].Data}), false},
		{"a digest without its head", []impl.Blob{{Digest: three[0].Digest[7:], Data: three[0].Data}}, false},
		{"a byte behind a digest", []impl.Blob{{Digest: three[0].Digest + "0", Data: three[0].Data}}, false},
		{"60", manyBlobs(60), true},
		{"61", manyBlobs(61), false},
		{"100", manyBlobs(100), false},
	} {
		if got := impl.StoreOk(impl.Store{Quota: 200000, Next: 1, Blobs: r.blobs}); got != r.want {
			t.Errorf("%s: %v", r.what, got)
		}
	}
}

func TestStoreOkOfUploads(t *testing.T) {
	for _, r := range []struct {
		what string
		ids  []int64
		next int64
		want bool
	}{
		{"none", nil, 1, true},
		{"one", []int64{1}, 2, true},
		{"one at Next", []int64{2}, 2, false},
		{"one above Next", []int64{3}, 2, false},
		{"one far below", []int64{1}, impl.MaxNumber, true},
		{"one below the greatest Next", []int64{impl.MaxNumber - 1}, impl.MaxNumber, true},
		{"one at the greatest Next", []int64{impl.MaxNumber}, impl.MaxNumber, false},
		{"rising", []int64{1, 2, 5, 9}, 10, true},
		{"rising to Next", []int64{1, 2, 5, 10}, 10, false},
		{"falling", []int64{2, 1}, 10, false},
		{"falling at the end", []int64{1, 5, 3}, 10, false},
		{"falling from Next", []int64{10, 3}, 10, false},
		{"one twice", []int64{3, 3}, 10, false},
		{"the last one twice", []int64{1, 3, 3}, 10, false},
		{"10", []int64{1, 2, 3, 4, 5, 6, 7, 8, 9, 10}, 11, true},
		{"11", []int64{1, 2, 3, 4, 5, 6, 7, 8, 9, 10, 11}, 12, false},
	} {
		s := impl.Store{Quota: 100, Next: r.next}
		for _, id := range r.ids {
			s.Uploads = append(s.Uploads, impl.Upload{Id: id, Data: "d"})
		}
		if got := impl.StoreOk(s); got != r.want {
			t.Errorf("%s: %v", r.what, got)
		}
	}
}

func TestStoreOkOfBytes(t *testing.T) {
	text := func(n int) string { return strings.Repeat("x", n) }
	for _, r := range []struct {
		what  string
		s     impl.Store
		bytes int64
	}{
		{"blobs", impl.Store{Blobs: blobsOf("abc", "de")}, 5},
		{"uploads", impl.Store{Uploads: manyUploads(3, "ab")}, 6},
		{"both", impl.Store{Blobs: blobsOf("abc", "de"), Uploads: manyUploads(2, "ab")}, 9},
		{"the same Data in both", impl.Store{Blobs: blobsOf("ab"), Uploads: manyUploads(1, "ab")}, 4},
		{"empty ones", impl.Store{Blobs: blobsOf(""), Uploads: manyUploads(2, "")}, 0},
		{"60 blobs and 10 uploads", impl.Store{Blobs: manyBlobs(60), Uploads: manyUploads(10, "u")}, 130},
		{"one great blob", impl.Store{Blobs: blobsOf(text(200000))}, 200000},
		{"a great blob and an upload", impl.Store{Blobs: blobsOf(text(199999)), Uploads: manyUploads(1, "u")}, 200000},
		{"one great upload", impl.Store{Uploads: manyUploads(1, text(200000))}, 200000},
	} {
		r.s.Next = 20
		for quota := max(r.bytes-2, 0); quota <= min(r.bytes+2, 200000); quota++ {
			r.s.Quota = quota
			want := quota >= r.bytes
			if got := impl.StoreOk(r.s); got != want {
				t.Errorf("%s with a Quota of %d: %v", r.what, quota, got)
			}
			used := int64(-1)
			if want {
				used = r.bytes
			}
			if got := impl.UsedBy(r.s); got != used {
				t.Errorf("%s with a Quota of %d: %d bytes used", r.what, quota, got)
			}
		}
	}
	if impl.StoreOk(impl.Store{Quota: 200000, Next: 2, Uploads: manyUploads(1, text(200001))}) {
		t.Error("200001 bytes")
	}
	if impl.StoreOk(impl.Store{Quota: 200000, Next: 2, Uploads: manyUploads(1, "u"), Blobs: blobsOf(text(200000))}) {
		t.Error("200001 bytes in both")
	}
}

// wrongStores are stores that are not right, each for one cause.
func wrongStores() map[string]impl.Store {
	right := impl.Store{Quota: 100, Blobs: manyBlobs(3), Uploads: manyUploads(2, "ab"), Next: 3}
	stores := map[string]impl.Store{"nothing": {}, "full of uploads": {Quota: 5, Uploads: manyUploads(10, "u"), Next: 11}}
	for what, change := range map[string]func(*impl.Store){
		"Quota -1":        func(s *impl.Store) { s.Quota = -1 },
		"Quota 200001":    func(s *impl.Store) { s.Quota = 200001 },
		"Quota too small": func(s *impl.Store) { s.Quota = 9 },
		"Next 0":          func(s *impl.Store) { s.Next, s.Uploads = 0, nil },
		"Next too great":  func(s *impl.Store) { s.Next = impl.MaxNumber + 1 },
		"Next an Id":      func(s *impl.Store) { s.Next = 2 },
		"Ids that fall":   func(s *impl.Store) { slices.Reverse(s.Uploads) },
		"blobs that fall": func(s *impl.Store) { slices.Reverse(s.Blobs) },
		"other Data":      func(s *impl.Store) { s.Blobs[1].Data = "zz" },
		"61 blobs":        func(s *impl.Store) { s.Quota, s.Blobs = 200000, manyBlobs(61) },
		"11 uploads":      func(s *impl.Store) { s.Uploads, s.Next = manyUploads(11, "u"), 12 },
	} {
		s := copyStore(right)
		change(&s)
		stores[what] = s
	}
	return stores
}

func TestStoresThatAreNotRight(t *testing.T) {
	digest := digestOf("01")
	for what, s := range wrongStores() {
		if impl.StoreOk(s) {
			t.Errorf("%s: right", what)
		}
		got, id, code := impl.Begin(s)
		checkRefused(t, what+", Begin", s, got, code, impl.BlStore)
		if id != 0 {
			t.Errorf("%s, Begin: id %d", what, id)
		}
		for _, id := range []int64{1, 2, 9, -1} {
			for _, data := range []string{"", "x", strings.Repeat("x", 200001)} {
				got, code = impl.Chunk(s, id, 2, data)
				checkRefused(t, what+", Chunk", s, got, code, impl.BlStore)
				got, code = impl.Keep(s, data)
				checkRefused(t, what+", Keep", s, got, code, impl.BlStore)
			}
			for _, d := range []string{"", digest, digestOf("ab")} {
				got, code = impl.Finish(s, id, d)
				checkRefused(t, what+", Finish", s, got, code, impl.BlStore)
			}
			got, code = impl.Abort(s, id)
			checkRefused(t, what+", Abort", s, got, code, impl.BlStore)
		}
		if data, ok := impl.GetBlob(s, digest); data != "" || ok {
			t.Errorf("%s, GetBlob: %q, %v", what, data, ok)
		}
		if got, ok := impl.DropBlob(s, digest); ok || !isZeroStore(got) {
			t.Errorf("%s, DropBlob: %+v, %v", what, got, ok)
		}
		if list := impl.DigestsOf(s); len(list) != 0 {
			t.Errorf("%s, DigestsOf: %q", what, list)
		}
		if n := impl.UsedBy(s); n != -1 {
			t.Errorf("%s, UsedBy: %d", what, n)
		}
	}
}

func TestBegin(t *testing.T) {
	for _, r := range []struct {
		what    string
		uploads int
		next    int64
		code    int64
	}{
		{"the first", 0, 1, impl.BlOk},
		{"one behind others", 2, 3, impl.BlOk},
		{"one far behind others", 2, 1000, impl.BlOk},
		{"the last", 9, 10, impl.BlOk},
		{"one too many", 10, 11, impl.BlMany},
		{"the last Id", 2, impl.MaxNumber - 1, impl.BlOk},
		{"no Id is left", 2, impl.MaxNumber, impl.BlMany},
		{"no Id, and one too many", 10, impl.MaxNumber, impl.BlMany},
	} {
		s := impl.Store{Quota: 30, Blobs: manyBlobs(3), Uploads: manyUploads(r.uploads, "u"), Next: r.next}
		got, id, code := impl.Begin(s)
		if r.code != impl.BlOk {
			checkRefused(t, r.what, s, got, code, r.code)
			if id != 0 {
				t.Errorf("%s: id %d", r.what, id)
			}
			continue
		}
		want := copyStore(s)
		want.Uploads = append(want.Uploads, impl.Upload{Id: r.next})
		want.Next++
		checkDone(t, r.what, got, code, want)
		if id != r.next {
			t.Errorf("%s: id %d", r.what, id)
		}
	}
	full := impl.Store{Quota: 6, Blobs: manyBlobs(3), Next: 1}
	if got, id, code := impl.Begin(full); code != impl.BlOk || id != 1 || len(got.Uploads) != 1 {
		t.Error("an empty upload where the Quota is reached", got, id, code)
	}
	if got, id, code := impl.Begin(impl.Store{Next: 1}); code != impl.BlOk || id != 1 || got.Next != 2 {
		t.Error("a Quota of 0", got, id, code)
	}
	if got, id, code := impl.Begin(impl.Store{Quota: 200, Blobs: manyBlobs(60), Next: 1}); code != impl.BlOk || id != 1 || got.Next != 2 {
		t.Error("with 60 blobs", got, id, code)
	}
}

func TestChunk(t *testing.T) {
	s := impl.Store{Quota: 20, Blobs: manyBlobs(3), Uploads: []impl.Upload{{Id: 2, Data: "ab"}, {Id: 5}, {Id: 7, Data: "cde"}}, Next: 9}
	for _, r := range []struct { // 11 bytes are there, 9 are left
		what       string
		id, offset int64
		data       string
		code       int64
	}{
		{"behind two bytes", 2, 2, "x", impl.BlOk},
		{"behind no bytes", 5, 0, "x", impl.BlOk},
		{"behind the last", 7, 3, "x", impl.BlOk},
		{"nothing", 2, 2, "", impl.BlOk},
		{"any bytes", 2, 2, "\x00\xff\n", impl.BlOk},
		{"just to the Quota", 2, 2, "123456789", impl.BlOk},
		{"a byte above the Quota", 2, 2, "1234567890", impl.BlQuota},
		{"far above the Quota", 2, 2, strings.Repeat("x", 200001), impl.BlQuota},
		{"offset below", 2, 1, "x", impl.BlOffset},
		{"offset 0", 2, 0, "x", impl.BlOffset},
		{"offset above", 2, 3, "x", impl.BlOffset},
		{"offset -1", 5, -1, "x", impl.BlOffset},
		{"offset 1 of an empty one", 5, 1, "x", impl.BlOffset},
		{"offset of another one", 2, 3, "", impl.BlOffset},
		{"the least offset", 5, math.MinInt64, "x", impl.BlOffset},
		{"an offset of another size", 2, 1<<32 + 2, "x", impl.BlOffset},
		{"no such id", 3, 0, "x", impl.BlUpload},
		{"id Next", 9, 0, "x", impl.BlUpload},
		{"id 0", 0, 0, "x", impl.BlUpload},
		{"id -1", -1, 0, "x", impl.BlUpload},
		{"id of another size", 1<<32 + 2, 2, "x", impl.BlUpload},
		{"no id and an offset", 3, 5, "x", impl.BlUpload},
		{"no id and the Quota", 3, 0, "1234567890", impl.BlUpload},
		{"no id, an offset and the Quota", 3, -1, "1234567890", impl.BlUpload},
		{"an offset and the Quota", 2, 3, "1234567890", impl.BlOffset},
		{"an offset below and the Quota", 2, 0, "1234567890", impl.BlOffset},
	} {
		got, code := impl.Chunk(s, r.id, r.offset, r.data)
		if r.code != impl.BlOk {
			checkRefused(t, r.what, s, got, code, r.code)
			continue
		}
		want := copyStore(s)
		at := slices.IndexFunc(want.Uploads, func(u impl.Upload) bool { return u.Id == r.id })
		want.Uploads[at].Data += r.data
		checkDone(t, r.what, got, code, want)
	}
	full := impl.Store{Quota: 6, Blobs: manyBlobs(2), Uploads: manyUploads(1, "ab"), Next: 2}
	got, code := impl.Chunk(full, 1, 2, "")
	checkDone(t, "nothing where the Quota is reached", got, code, full)
	got, code = impl.Chunk(full, 1, 2, "x")
	checkRefused(t, "a byte where the Quota is reached", full, got, code, impl.BlQuota)
}

func TestFinish(t *testing.T) {
	there := manyBlobs(3)
	uploads := []impl.Upload{{Id: 2, Data: "new"}, {Id: 5, Data: there[1].Data}, {Id: 7}}
	few := impl.Store{Quota: 200, Blobs: there, Uploads: uploads, Next: 9}
	full := impl.Store{Quota: 200, Blobs: manyBlobs(60), Uploads: uploads, Next: 9}
	last := impl.Store{Quota: 200, Blobs: manyBlobs(59), Uploads: uploads, Next: 9}
	for _, r := range []struct {
		what   string
		s      impl.Store
		id     int64
		digest string
		code   int64
	}{
		{"a new blob", few, 2, digestOf("new"), impl.BlOk},
		{"one that is there", few, 5, there[1].Digest, impl.BlOk},
		{"an empty one", few, 7, digestOf(""), impl.BlOk},
		{"the 60th", last, 2, digestOf("new"), impl.BlOk},
		{"the 61st", full, 2, digestOf("new"), impl.BlMany},
		{"an empty 61st", full, 7, digestOf(""), impl.BlMany},
		{"one that is there among 60", full, 5, there[1].Digest, impl.BlOk},
		{"another digest", few, 2, digestOf("old"), impl.BlDigest},
		{"the digest of a blob", few, 2, there[0].Digest, impl.BlDigest},
		{"the digest of another upload", few, 2, digestOf(""), impl.BlDigest},
		{"no digest", few, 2, "", impl.BlDigest},
		{"its Data", few, 2, "new", impl.BlDigest},
		{"a digest without its head", few, 2, digestOf("new")[7:], impl.BlDigest},
		{"a digest in great letters", few, 2, strings.ToUpper(digestOf("new")), impl.BlDigest},
		{"a byte behind the digest", few, 2, digestOf("new") + "0", impl.BlDigest},
		{"no such id", few, 3, digestOf("new"), impl.BlUpload},
		{"id Next", few, 9, digestOf(""), impl.BlUpload},
		{"id 0", few, 0, digestOf(""), impl.BlUpload},
		{"id -1", few, -1, digestOf("new"), impl.BlUpload},
		{"no id and another digest", few, 3, "", impl.BlUpload},
		{"no id, another digest and 60", full, 3, "", impl.BlUpload},
		{"no id and 60", full, 3, digestOf("new"), impl.BlUpload},
		{"another digest and 60", full, 2, digestOf("old"), impl.BlDigest},
		{"the digest of a blob and 60", full, 2, there[0].Digest, impl.BlDigest},
	} {
		got, code := impl.Finish(r.s, r.id, r.digest)
		if r.code != impl.BlOk {
			checkRefused(t, r.what, r.s, got, code, r.code)
			continue
		}
		want := copyStore(r.s)
		at := slices.IndexFunc(want.Uploads, func(u impl.Upload) bool { return u.Id == r.id })
		datas := []string{want.Uploads[at].Data}
		want.Uploads = slices.Delete(want.Uploads, at, at+1)
		for _, b := range want.Blobs {
			if b.Data != datas[0] {
				datas = append(datas, b.Data)
			}
		}
		want.Blobs = blobsOf(datas...)
		checkDone(t, r.what, got, code, want)
		if data, ok := impl.GetBlob(got, r.digest); data != datas[0] || !ok {
			t.Errorf("%s: %q, %v", r.what, data, ok)
		}
	}
}

func TestAbort(t *testing.T) {
	s := impl.Store{Quota: 20, Blobs: manyBlobs(3), Uploads: []impl.Upload{{Id: 2, Data: "ab"}, {Id: 5}, {Id: 7, Data: "cde"}}, Next: 9}
	for at, u := range s.Uploads {
		want := copyStore(s)
		want.Uploads = slices.Delete(want.Uploads, at, at+1)
		got, code := impl.Abort(s, u.Id)
		checkDone(t, fmt.Sprint("Abort of ", u.Id), got, code, want)
		again, code := impl.Abort(got, u.Id)
		checkRefused(t, "a second Abort", got, again, code, impl.BlUpload)
	}
	for _, id := range []int64{-1, 0, 1, 3, 8, 9, 10, 1<<32 + 2, math.MinInt64, math.MaxInt64} {
		got, code := impl.Abort(s, id)
		checkRefused(t, fmt.Sprint("Abort of ", id), s, got, code, impl.BlUpload)
	}
	got, code := impl.Abort(impl.Store{Next: 1}, 1)
	checkRefused(t, "no uploads", impl.Store{Next: 1}, got, code, impl.BlUpload)
}

func TestGetAndDropBlob(t *testing.T) {
	s := impl.Store{Quota: 200, Blobs: append(manyBlobs(59), blobsOf("")...), Uploads: manyUploads(2, "up"), Next: 3}
	slices.SortFunc(s.Blobs, func(a, b impl.Blob) int { return strings.Compare(a.Digest, b.Digest) })
	for at, b := range s.Blobs {
		if data, ok := impl.GetBlob(s, b.Digest); data != b.Data || !ok {
			t.Errorf("GetBlob of %q: %q, %v", b.Data, data, ok)
		}
		want := copyStore(s)
		want.Blobs = slices.Delete(want.Blobs, at, at+1)
		got, ok := impl.DropBlob(s, b.Digest)
		if !ok || !sameStore(got, want) || !impl.StoreOk(got) {
			t.Errorf("DropBlob of %q: %+v, %v", b.Data, got, ok)
		}
		if data, ok := impl.GetBlob(got, b.Digest); data != "" || ok {
			t.Errorf("GetBlob behind DropBlob: %q, %v", data, ok)
		}
		if again, ok := impl.DropBlob(got, b.Digest); ok || !isZeroStore(again) {
			t.Errorf("a second DropBlob: %+v, %v", again, ok)
		}
	}
	b := s.Blobs[7]
	for _, digest := range []string{"", b.Data, digestOf("up"), digestOf("none"), b.Digest[7:], strings.ToUpper(b.Digest), b.Digest + "0", b.Digest[:70], " " + b.Digest} {
		if data, ok := impl.GetBlob(s, digest); data != "" || ok {
			t.Errorf("GetBlob(%q): %q, %v", digest, data, ok)
		}
		if got, ok := impl.DropBlob(s, digest); ok || !isZeroStore(got) {
			t.Errorf("DropBlob(%q): %+v, %v", digest, got, ok)
		}
	}
	empty := impl.Store{Quota: 5, Next: 1}
	if data, ok := impl.GetBlob(empty, digestOf("")); data != "" || ok {
		t.Errorf("of no blobs: %q, %v", data, ok)
	}
	if got, ok := impl.DropBlob(empty, digestOf("")); ok || !isZeroStore(got) {
		t.Errorf("of no blobs: %+v, %v", got, ok)
	}
}

func TestKeep(t *testing.T) {
	three, sixty := manyBlobs(3), manyBlobs(60)
	for _, r := range []struct {
		what string
		s    impl.Store
		data string
		code int64
	}{
		{"the first", impl.Store{Quota: 10, Next: 1}, "new", impl.BlOk},
		{"one more", impl.Store{Quota: 30, Blobs: three, Uploads: manyUploads(2, "u"), Next: 5}, "new", impl.BlOk},
		{"an empty one", impl.Store{Next: 1}, "", impl.BlOk},
		{"an empty one again", impl.Store{Blobs: blobsOf(""), Next: 2}, "", impl.BlOk},
		{"one that is there", impl.Store{Quota: 8, Blobs: three, Next: 5}, three[1].Data, impl.BlOk},
		{"one that is there, without room for it twice", impl.Store{Quota: 7, Blobs: three, Next: 5}, three[1].Data, impl.BlQuota},
		{"just to the Quota", impl.Store{Quota: 10, Blobs: three, Next: 5}, "1234", impl.BlOk},
		{"a byte above the Quota", impl.Store{Quota: 10, Blobs: three, Next: 5}, "12345", impl.BlQuota},
		{"where the Quota is reached", impl.Store{Quota: 6, Blobs: three, Next: 5}, "1", impl.BlQuota},
		{"nothing where the Quota is reached", impl.Store{Quota: 6, Blobs: three, Next: 5}, "", impl.BlOk},
		{"the Quota and an upload", impl.Store{Quota: 10, Blobs: three, Uploads: manyUploads(1, "ab"), Next: 5}, "123", impl.BlQuota},
		{"beside nine uploads", impl.Store{Quota: 30, Uploads: manyUploads(9, "u"), Next: 10}, "new", impl.BlOk},
		{"beside ten uploads", impl.Store{Quota: 30, Uploads: manyUploads(10, "u"), Next: 11}, "new", impl.BlMany},
		{"one that is there, beside ten uploads", impl.Store{Quota: 30, Blobs: three, Uploads: manyUploads(10, "u"), Next: 11}, three[0].Data, impl.BlMany},
		{"ten uploads and the Quota", impl.Store{Quota: 10, Uploads: manyUploads(10, "u"), Next: 11}, "new", impl.BlMany},
		{"the last Id", impl.Store{Quota: 30, Next: impl.MaxNumber - 1}, "new", impl.BlOk},
		{"no Id is left", impl.Store{Quota: 30, Next: impl.MaxNumber}, "new", impl.BlMany},
		{"no Id is left, for one that is there", impl.Store{Quota: 30, Blobs: three, Next: impl.MaxNumber}, three[0].Data, impl.BlMany},
		{"no Id and the Quota", impl.Store{Next: impl.MaxNumber}, "new", impl.BlMany},
		{"the 60th", impl.Store{Quota: 200, Blobs: manyBlobs(59), Next: 5}, "new", impl.BlOk},
		{"the 61st", impl.Store{Quota: 200, Blobs: sixty, Next: 5}, "new", impl.BlMany},
		{"an empty 61st", impl.Store{Quota: 120, Blobs: sixty, Next: 5}, "", impl.BlMany},
		{"one that is there among 60", impl.Store{Quota: 122, Blobs: sixty, Next: 5}, "07", impl.BlOk},
		{"the 61st above the Quota", impl.Store{Quota: 120, Blobs: sixty, Next: 5}, "new", impl.BlQuota},
		{"200000 bytes", impl.Store{Quota: 200000, Next: 1}, mixedBytes(200000), impl.BlOk},
		{"200001 bytes", impl.Store{Quota: 200000, Next: 1}, mixedBytes(200001), impl.BlQuota},
	} {
		got, code := impl.Keep(r.s, r.data)
		step, stepCode := keepByHand(r.s, r.data, len(r.data))
		if code != stepCode || !sameStore(got, step) {
			t.Errorf("%s: not what Begin, Chunk and Finish do: code %d, %d", r.what, code, stepCode)
		}
		if r.code != impl.BlOk {
			checkRefused(t, r.what, r.s, got, code, r.code)
			continue
		}
		want := copyStore(r.s)
		want.Next++
		if _, known := impl.GetBlob(r.s, digestOf(r.data)); !known {
			datas := []string{r.data}
			for _, b := range r.s.Blobs {
				datas = append(datas, b.Data)
			}
			want.Blobs = blobsOf(datas...)
		}
		checkDone(t, r.what, got, code, want)
		if data, ok := impl.GetBlob(got, digestOf(r.data)); data != r.data || !ok {
			t.Errorf("%s: not given back", r.what)
		}
	}
}

// keepByHand keeps data in two chunks, or in one, where the second has no bytes.
func keepByHand(s impl.Store, data string, split int) (impl.Store, int64) {
	next, id, code := impl.Begin(s)
	if code != impl.BlOk {
		return copyStore(next), code
	}
	next, code = impl.Chunk(next, id, 0, data[:split])
	if code != impl.BlOk {
		return s, code
	}
	if split < len(data) {
		next, code = impl.Chunk(next, id, int64(split), data[split:])
		if code != impl.BlOk {
			return s, code
		}
	}
	next, code = impl.Finish(next, id, impl.Digest(data))
	if code != impl.BlOk {
		return s, code
	}
	return next, code
}

func TestABlobInTwoChunksIsTheOneInOne(t *testing.T) {
	data := mixedBytes(150)
	for _, s := range []impl.Store{{Quota: 150, Next: 1}, {Quota: 400, Blobs: manyBlobs(40), Uploads: manyUploads(9, "u"), Next: 77}, {Quota: 300, Blobs: blobsOf(data), Next: 5}} {
		whole, code := impl.Keep(s, data)
		if code != impl.BlOk {
			t.Fatal(code)
		}
		for split := range len(data) + 1 {
			got, code := keepByHand(s, data, split)
			checkDone(t, fmt.Sprint("split at ", split), got, code, whole)
			if kept, ok := impl.GetBlob(got, digestOf(data)); kept != data || !ok {
				t.Errorf("split at %d: not given back", split)
			}
		}
	}
}

func TestUploadsBesideOneAnother(t *testing.T) {
	s := impl.Store{Quota: 100, Next: 1}
	texts := []string{"first", "", "third of them", "first"}
	for range texts {
		s, _, _ = impl.Begin(s)
	}
	for at := range 13 {
		for i, text := range texts {
			if at >= len(text) {
				continue
			}
			next, code := impl.Chunk(s, int64(i+1), int64(at), text[at:at+1])
			if code != impl.BlOk {
				t.Fatal(i, at, code)
			}
			s = next
		}
	}
	for i, text := range texts {
		next, code := impl.Finish(s, int64(i+1), digestOf(text))
		if code != impl.BlOk {
			t.Fatal(i, code)
		}
		s = next
	}
	checkDone(t, "one beside the other", s, impl.BlOk, impl.Store{Quota: 100, Blobs: blobsOf(texts[:3]...), Next: 5})
}

func TestABlobIsGivenBackUntilItIsDropped(t *testing.T) {
	s := impl.Store{Quota: 1000, Next: 1}
	datas := []string{"", "a", "b", mixedBytes(100), "a\x00", "A"}
	for i, data := range datas {
		s, _ = impl.Keep(s, data)
		s, _ = impl.Keep(s, data)
		for _, kept := range datas[:i+1] {
			if got, ok := impl.GetBlob(s, digestOf(kept)); got != kept || !ok {
				t.Errorf("%q behind %q: %q, %v", kept, data, got, ok)
			}
		}
	}
	want := impl.Store{Quota: 1000, Blobs: blobsOf(datas...), Next: 13}
	checkDone(t, "kept twice", s, impl.BlOk, want)
	for i, data := range datas {
		next, ok := impl.DropBlob(s, digestOf(data))
		if !ok {
			t.Fatalf("%q is not dropped", data)
		}
		s = next
		for j, kept := range datas {
			if got, ok := impl.GetBlob(s, digestOf(kept)); ok != (j > i) || ok && got != kept {
				t.Errorf("%q behind the drop of %q: %q, %v", kept, data, got, ok)
			}
		}
	}
	checkDone(t, "all dropped", s, impl.BlOk, impl.Store{Quota: 1000, Next: 13})
}

func TestARefusedFinishLeavesItsUpload(t *testing.T) {
	s := impl.Store{Quota: 100, Uploads: manyUploads(1, "data"), Next: 2}
	got, code := impl.Finish(s, 1, digestOf("other"))
	checkRefused(t, "another digest", s, got, code, impl.BlDigest)
	got, code = impl.Chunk(got, 1, 4, " and more")
	if code != impl.BlOk {
		t.Fatal(code)
	}
	got, code = impl.Finish(got, 1, digestOf("data and more"))
	checkDone(t, "behind a refused one", got, code, impl.Store{Quota: 100, Blobs: blobsOf("data and more"), Next: 2})
}

func TestDigestsOf(t *testing.T) {
	for _, n := range []int{0, 1, 2, 59, 60} {
		s := impl.Store{Quota: 200, Blobs: manyBlobs(n), Uploads: manyUploads(3, "u"), Next: 4}
		var want []string
		for i := range n {
			want = append(want, digestOf(fmt.Sprintf("%02d", i)))
		}
		slices.Sort(want)
		if got := impl.DigestsOf(s); !slices.Equal(got, want) {
			t.Errorf("%d blobs: %q", n, got)
		}
		if got := impl.UsedBy(s); got != int64(2*n+3) {
			t.Errorf("%d blobs: %d bytes", n, got)
		}
	}
}

// A slowStore is what a store has, kept beside the program.
type slowStore struct {
	blobs   map[string]string
	uploads map[int64]string
	quota   int64
	next    int64
}

func (s slowStore) used() int64 {
	n := 0
	for _, data := range s.blobs {
		n += len(data)
	}
	for _, data := range s.uploads {
		n += len(data)
	}
	return int64(n)
}

func (s slowStore) store() impl.Store {
	out := impl.Store{Quota: s.quota, Next: s.next}
	for digest, data := range s.blobs {
		out.Blobs = append(out.Blobs, impl.Blob{Digest: digest, Data: data})
	}
	for id, data := range s.uploads {
		out.Uploads = append(out.Uploads, impl.Upload{Id: id, Data: data})
	}
	slices.SortFunc(out.Blobs, func(a, b impl.Blob) int { return strings.Compare(a.Digest, b.Digest) })
	slices.SortFunc(out.Uploads, func(a, b impl.Upload) int { return int(a.Id - b.Id) })
	return out
}

func (s *slowStore) begin() int64 {
	if len(s.uploads) == 10 {
		return impl.BlMany
	}
	s.uploads[s.next] = ""
	s.next++
	return impl.BlOk
}

func (s *slowStore) chunk(id, offset int64, data string) int64 {
	had, ok := s.uploads[id]
	switch {
	case !ok:
		return impl.BlUpload
	case offset != int64(len(had)):
		return impl.BlOffset
	case s.used()+int64(len(data)) > s.quota:
		return impl.BlQuota
	}
	s.uploads[id] = had + data
	return impl.BlOk
}

func (s *slowStore) finish(id int64, digest string) int64 {
	had, ok := s.uploads[id]
	_, known := s.blobs[digest]
	switch {
	case !ok:
		return impl.BlUpload
	case digest != digestOf(had):
		return impl.BlDigest
	case len(s.blobs) == 60 && !known:
		return impl.BlMany
	}
	s.blobs[digest] = had
	delete(s.uploads, id)
	return impl.BlOk
}

func TestStoresAgainstTheSlowWay(t *testing.T) {
	r := rand.New(rand.NewPCG(6, 6))
	codes := map[string]int{}
	for range 60 {
		slow := slowStore{map[string]string{}, map[int64]string{}, r.Int64N(250), 1}
		for _, b := range manyBlobs(min(58, int(slow.quota/2))) {
			slow.blobs[b.Digest] = b.Data
		}
		s := slow.store()
		for range 150 {
			what, got, code, want := randomStep(r, s, &slow)
			codes[fmt.Sprint(what, " ", want)]++
			if code != want || !sameStore(got, slow.store()) || !impl.StoreOk(got) {
				t.Fatalf("%s: %+v, code %d, not %d", what, got, code, want)
			}
			if impl.UsedBy(got) != slow.used() || len(impl.DigestsOf(got)) != len(slow.blobs) {
				t.Fatalf("%s: %d bytes", what, impl.UsedBy(got))
			}
			s = got
		}
	}
	for _, what := range []string{"Begin 0", "Begin 2", "Chunk 0", "Chunk 3", "Chunk 4", "Chunk 5", "Finish 0", "Finish 2", "Finish 3", "Finish 6", "Keep 0", "Keep 2", "Keep 5", "Abort 0", "Abort 3"} {
		if codes[what] == 0 {
			t.Errorf("%s has not come about", what)
		}
	}
}

// randomStep does one thing to a store and to the slow one beside it.
func randomStep(r *rand.Rand, s impl.Store, slow *slowStore) (what string, got impl.Store, code, want int64) {
	id := slow.next - 1 - r.Int64N(12)
	data := mixedBytes(90)[r.IntN(80):][:r.IntN(3)]
	switch r.IntN(7) {
	case 0, 1:
		got, _, code = impl.Begin(s)
		return "Begin", got, code, slow.begin()
	case 2:
		offset := int64(len(slow.uploads[id]))
		if r.IntN(6) == 0 {
			offset += r.Int64N(3) - 1
		}
		got, code = impl.Chunk(s, id, offset, data)
		return "Chunk", got, code, slow.chunk(id, offset, data)
	case 3, 4:
		digest := digestOf(slow.uploads[id])
		if r.IntN(8) == 0 {
			digest = digestOf(data)
		}
		got, code = impl.Finish(s, id, digest)
		return "Finish", got, code, slow.finish(id, digest)
	case 5:
		got, code = impl.Keep(s, data)
		return "Keep", got, code, slow.keep(data)
	}
	got, code = impl.Abort(s, id)
	if _, there := slow.uploads[id]; !there {
		return "Abort", got, code, impl.BlUpload
	}
	delete(slow.uploads, id)
	return "Abort", got, code, impl.BlOk
}

func (s *slowStore) keep(data string) int64 {
	if code := s.begin(); code != impl.BlOk {
		return code
	}
	id := s.next - 1
	code := s.chunk(id, 0, data)
	if code == impl.BlOk {
		code = s.finish(id, digestOf(data))
	}
	if code != impl.BlOk {
		delete(s.uploads, id)
		s.next--
	}
	return code
}

func roomyStore(s impl.Store) impl.Store {
	s.Blobs = roomy(s.Blobs, impl.Blob{Digest: "spare", Data: "spare"})
	s.Uploads = roomy(s.Uploads, impl.Upload{Id: 99, Data: "spare"})
	return s
}

func watchStore(what string, s impl.Store) []watch {
	return []watch{watchOver(what+" Blobs", s.Blobs), watchOver(what+" Uploads", s.Uploads)}
}

func TestStoreAnswersAreTheirOwn(t *testing.T) {
	blob, upload := impl.Blob{Digest: "changed", Data: "changed"}, impl.Upload{Id: -9, Data: "changed"}
	first := func(s impl.Store, _ int64) impl.Store { return s }
	dropped := func(s impl.Store, _ bool) impl.Store { return s }
	calls := map[string]func(impl.Store) impl.Store{
		"Begin":            func(s impl.Store) impl.Store { e, _, _ := impl.Begin(s); return e },
		"Chunk":            func(s impl.Store) impl.Store { return first(impl.Chunk(s, 1, 2, "x")) },
		"Chunk of no id":   func(s impl.Store) impl.Store { return first(impl.Chunk(s, 50, 2, "x")) },
		"Chunk offset":     func(s impl.Store) impl.Store { return first(impl.Chunk(s, 1, 0, "x")) },
		"Chunk quota":      func(s impl.Store) impl.Store { return first(impl.Chunk(s, 1, 2, strings.Repeat("x", 999))) },
		"Finish":           func(s impl.Store) impl.Store { return first(impl.Finish(s, 1, digestOf("ab"))) },
		"Finish digest":    func(s impl.Store) impl.Store { return first(impl.Finish(s, 1, "")) },
		"Abort":            func(s impl.Store) impl.Store { return first(impl.Abort(s, 2)) },
		"Abort of no id":   func(s impl.Store) impl.Store { return first(impl.Abort(s, 50)) },
		"DropBlob":         func(s impl.Store) impl.Store { return dropped(impl.DropBlob(s, digestOf("01"))) },
		"DropBlob of none": func(s impl.Store) impl.Store { return dropped(impl.DropBlob(s, "")) },
		"Keep":             func(s impl.Store) impl.Store { return first(impl.Keep(s, "new")) },
		"Keep again":       func(s impl.Store) impl.Store { return first(impl.Keep(s, "01")) },
		"Keep quota":       func(s impl.Store) impl.Store { return first(impl.Keep(s, strings.Repeat("x", 999))) },
		"StoreOk":          func(s impl.Store) impl.Store { impl.StoreOk(s); return impl.Store{} },
		"GetBlob":          func(s impl.Store) impl.Store { impl.GetBlob(s, digestOf("01")); return impl.Store{} },
		"UsedBy":           func(s impl.Store) impl.Store { impl.UsedBy(s); return impl.Store{} },
		"DigestsOf": func(s impl.Store) impl.Store {
			scribble(impl.DigestsOf(s), "changed")
			var e impl.Store
			for _, d := range impl.DigestsOf(s) {
				e.Blobs = append(e.Blobs, impl.Blob{Digest: d})
			}
			return e
		},
	}
	for _, s := range []impl.Store{
		{}, {Next: 1}, {Quota: 300, Blobs: manyBlobs(5), Uploads: manyUploads(3, "ab"), Next: 4},
		{Quota: 300, Blobs: manyBlobs(60), Uploads: manyUploads(10, "ab"), Next: 11}, {Quota: 300, Blobs: manyBlobs(2), Next: 1},
		{Quota: 3, Blobs: manyBlobs(5), Next: 1}, {Quota: 300, Uploads: manyUploads(2, "ab"), Next: impl.MaxNumber},
	} {
		for name, call := range calls {
			argument := roomyStore(s)
			watches := watchStore("the argument's", argument)
			answer := call(argument)
			checkWatches(t, name, watches)
			before := copyStore(answer)
			scribble(answer.Blobs, blob)
			scribble(answer.Uploads, upload)
			checkWatches(t, name+", scribbled on", watches)
			if again := call(argument); !sameStore(again, before) {
				t.Errorf("%s: the same argument, another answer: %+v", name, again)
			}
		}
	}
}
