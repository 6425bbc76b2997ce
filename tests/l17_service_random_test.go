package tests

import (
	"fmt"
	"math/rand/v2"
	"slices"
	"strings"
	"testing"

	"loop.example/g00141/impl"
)

// randomServer is at some place of a log, with some blobs and uploads; now and then one of its lists is full.
func randomServer(r *rand.Rand) impl.Server {
	states := randomHistory(r, 60)
	v := impl.Server{Site: impl.Site{Node: 1 + r.Int64N(3), Store: randomStore(r), State: states[r.IntN(len(states))]}}
	v.Leader = v.Site.Node
	store := &v.Site.Store
	store.Quota = impl.UsedBy(*store) + pick[int64](r, 0, 1, 3, 9, 60)
	switch r.IntN(10) {
	case 0:
		v.Leader = pick(r, 0, v.Site.Node+1, 50)
	case 1:
		store.Quota, store.Blobs = 9000, manyBlobs(60)
	case 2:
		store.Quota, store.Uploads, store.Next = 9000, manyUploads(10, "b1"), 11
	case 3:
		v.Site.State = stateOf(40, 100, 200, 3, 20)
	case 4:
		v.Site.State = stateOf(3, 100, 199, 3, 20)
	case 5:
		store.Quota = 200000
		store.Blobs = blobsOf(strings.Repeat("m", 20000), strings.Repeat("m", 20001), "b1")
	}
	return v
}

func randomRepo(r *rand.Rand, v impl.Server) string {
	if rows := v.Site.State.Tags; len(rows) > 0 && r.IntN(2) == 0 {
		return pick(r, rows...).Repo
	}
	return pick(r, "a", "a", "a/b", "ab", "blobs", "tags/list", "a/blobs/uploads", "", "A", "a//b")
}

// randomName is an X, mostly one that is somewhere.
func randomName(r *rand.Rand, v impl.Server) string {
	switch r.IntN(5) {
	case 0:
		if list := v.Site.Store.Blobs; len(list) > 0 {
			return pick(r, list...).Digest
		}
	case 1:
		if list := v.Site.State.Manifests; len(list) > 0 {
			return pick(r, list...).Digest
		}
	case 2:
		if list := v.Site.State.Tags; len(list) > 0 {
			return pick(r, list...).Tag
		}
	case 3:
		return fmt.Sprint(r.IntN(13))
	}
	return pick(r, "v1", "v2", "b", "list", "uploads", "", "x/y", "01", ".v", digestOf("b1"), digestOf("none"), "1000000000000", "1000000000001")
}

func randomBody(r *rand.Rand, v impl.Server) string {
	return pick(r, "", "b1", "b2", "1", fmt.Sprint("b", r.IntN(14)), randomImage(r, v.Site.State), randomImage(r, v.Site.State), strings.Repeat("x", r.IntN(70)))
}

// digestTold is mostly that of what an upload would be with a body behind it.
func digestTold(r *rand.Rand, v impl.Server, id int64, body string) string {
	for _, u := range v.Site.Store.Uploads {
		if u.Id == id && r.IntN(4) > 0 {
			return digestOf(u.Data + body)
		}
	}
	return pick(r, digestOf(body), digestOf("b1"), "", "x")
}

func randomUploadAsk(r *rand.Rand, v impl.Server, method string) impl.Request {
	id, body := r.Int64N(5), pick(r, "", "b2", fmt.Sprint("b", r.IntN(14)), strings.Repeat("x", r.IntN(70)))
	q := ask(method, fmt.Sprintf("/v2/%s/blobs/uploads/%d", pick(r, "a", "a/b", "uploads"), id), body)
	for range r.IntN(8) / 3 {
		q.Query = append(q.Query, impl.Header{Name: "digest", Value: digestTold(r, v, id, body)})
	}
	for range r.IntN(3) {
		q.Headers = append(q.Headers, impl.Header{Name: "x-offset", Value: pick(r, "2", "2", "2", "0", "1", "3", "x", "")})
	}
	return q
}

func randomManifestAsk(r *rand.Rand, v impl.Server, method string) impl.Request {
	repo, tag := randomTag(r, v.Site.State)
	body := randomImage(r, v.Site.State)
	name := pick(r, tag, tag, tag, digestOf(body), digestOf(body), digestOf("none"), ".v")
	q := ask(method, fmt.Sprintf("/v2/%s/manifests/%s", repo, name), body)
	for range r.IntN(3) {
		session, serial := r.Int64N(24), r.Int64N(4)
		if rows := v.Site.State.Sessions; len(rows) > 0 && r.IntN(2) == 0 {
			row := pick(r, rows...)
			session, serial = row.Id, max(row.Serial+r.Int64N(3)-1, 0)
		}
		text := fmt.Sprint(session, " ", serial)
		if r.IntN(6) == 0 {
			text = pick(r, wrongSessions...)
		}
		q.Headers = append(q.Headers, impl.Header{Name: "x-session", Value: text})
	}
	return q
}

func randomAsk(r *rand.Rand, v impl.Server) impl.Request {
	switch r.IntN(9) {
	case 0:
		return randomUploadAsk(r, v, "PATCH")
	case 1:
		return randomUploadAsk(r, v, "PUT")
	case 2:
		return randomManifestAsk(r, v, "PUT")
	case 3:
		return randomManifestAsk(r, v, pick(r, "DELETE", "DELETE", "GET", "HEAD"))
	case 4:
		if list := v.Site.Store.Blobs; len(list) > 0 {
			return ask(pick(r, "GET", "HEAD"), "/v2/a/blobs/"+pick(r, list...).Digest, "")
		}
	case 5:
		return ask("POST", "/v2/"+randomRepo(r, v)+"/blobs/uploads/", randomBody(r, v))
	}
	tail := pick(r, "/blobs/uploads/", "/blobs/uploads/", "/blobs/uploads/"+randomName(r, v), "/blobs/"+randomName(r, v), "/blobs/"+randomName(r, v), "/manifests/"+randomName(r, v), "/manifests/"+randomName(r, v), "/tags/list", "/none/x")
	q := ask(pick(r, manyMethods...), "/v2/"+randomRepo(r, v)+tail, randomBody(r, v))
	if r.IntN(12) == 0 {
		q.Path = pick(r, "/v2/", "/v2", "/", "/v2/a")
	}
	return q
}

func TestServiceAgainstTheSlowWay(t *testing.T) {
	r := rand.New(rand.NewPCG(17, 17))
	seen := map[string]int{}
	for range 200 {
		v := randomServer(r)
		if !impl.ServerOk(v) {
			t.Fatalf("not right: %+v", v)
		}
		for range 30 {
			q := randomAsk(r, v)
			text := impl.WriteRequest(q)
			if text == "" {
				t.Fatalf("no right request: %+v", q)
			}
			if r.IntN(40) == 0 {
				text = spoiledText(r, text)
			}
			next, p := checkServe(t, "at random", v, text)
			route, _, _ := impl.Route(q)
			seen[fmt.Sprint(route, " ", q.Method, " ", p.Status)]++
			v = next
		}
	}
	wanted := []string{"0 GET 404", "1 GET 200", "1 PUT 405", "2 POST 202", "2 POST 507", "2 POST 307", "2 POST 400", "2 GET 405", "6 GET 200", "6 GET 400"}
	for method, codes := range map[string][]int{
		"3 PATCH": {202, 307, 400, 404, 413}, "3 PUT": {201, 307, 400, 404, 413, 507}, "4 GET": {200, 400, 404, 413}, "4 HEAD": {200, 400, 404},
		"5 GET": {200, 404}, "5 HEAD": {200, 404}, "5 PUT": {201, 307, 400, 507}, "5 DELETE": {202, 307, 400, 404, 507},
	} {
		for _, code := range codes {
			wanted = append(wanted, fmt.Sprint(method, " ", code))
		}
	}
	slices.Sort(wanted)
	for _, what := range wanted {
		if seen[what] == 0 {
			t.Errorf("%s has not come about", what)
		}
	}
}

// What is pushed to a server that leads and has room is there, in one piece or in two, and is given back.
func TestServicePromiseOfBlobs(t *testing.T) {
	r := rand.New(rand.NewPCG(71, 17))
	for range 60 {
		v := randomServer(r)
		v.Leader = v.Site.Node
		data := pick(r, "", "b1", mixedBytes(r.IntN(300)), fmt.Sprint("b", r.IntN(14)))
		digest := digestOf(data)
		begun, p := checkServe(t, "begin", v, impl.WriteRequest(ask("POST", "/v2/a/blobs/uploads/", "")))
		if p.Status != 202 {
			continue
		}
		path, _ := impl.ValueOf(p.Headers, "location")
		at := r.IntN(len(data) + 1)
		half, p := checkServe(t, "a piece", begun, impl.WriteRequest(ask("PATCH", path, data[:at])))
		room := impl.UsedBy(begun.Site.Store)+int64(len(data)) <= v.Site.Store.Quota
		if room && p.Status != 202 {
			t.Fatalf("a piece: %+v", p)
		}
		if p.Status != 202 {
			continue
		}
		next, p := checkServe(t, "end", half, impl.WriteRequest(ask("PUT", path+"?digest="+digest, data[at:])))
		_, code := impl.Apply(v.Site.State, pinCmd(data))
		fits := room && (stores(v.Site, digest) || len(v.Site.Store.Blobs) < impl.MaxBlobs) && code == impl.RgOk
		if fits != (p.Status == 201) {
			t.Fatalf("it fits %v: %+v", fits, p)
		}
		if fits {
			if _, p := checkServe(t, "given back", next, impl.WriteRequest(ask("GET", "/v2/a/blobs/"+digest, ""))); p.Status != 200 || p.Body != data || !hasBlob(next.Site.State, digest) {
				t.Fatalf("given back: %+v", p)
			}
		}
	}
}
