package tests

import (
	"fmt"
	"math"
	"slices"
	"strings"
	"sync"
	"testing"

	"loop.example/g00141/impl"
)

// ask is a request for a target, which may have a Query; headers are told as "name: value".
func ask(method, target, body string, headers ...string) impl.Request {
	path, query, asked := strings.Cut(target, "?")
	q := impl.Request{Method: method, Path: path, Body: body}
	for row := range strings.SplitSeq(query, "&") {
		name, value, _ := strings.Cut(row, "=")
		if asked {
			q.Query = append(q.Query, impl.Header{Name: name, Value: value})
		}
	}
	for _, row := range headers {
		name, value, _ := strings.Cut(row, ": ")
		q.Headers = append(q.Headers, impl.Header{Name: name, Value: value})
	}
	return q
}

func location(value string) impl.Header {
	return impl.Header{Name: "location", Value: value}
}

// aServer is the node 2, and leads; it has 12 bytes of 30.
func aServer() impl.Server {
	store := impl.Store{Quota: 30, Blobs: blobsOf("a", "b", "c", "x", "apple"), Uploads: []impl.Upload{{Id: 3, Data: "up"}, {Id: 4}, {Id: 9, Data: "z"}}, Next: 12}
	return impl.Server{Site: impl.Site{Node: 2, Store: store, State: aState()}, Leader: 2}
}

// other is a server with something changed.
func other(v impl.Server, changes ...func(*impl.Server)) impl.Server {
	v = copyServer(v)
	for _, change := range changes {
		change(&v)
	}
	return v
}

func leader(id int64) func(*impl.Server) {
	return func(v *impl.Server) { v.Leader = id }
}

func quota(n int64) func(*impl.Server) {
	return func(v *impl.Server) { v.Site.Store.Quota = n }
}

func uploads(list ...impl.Upload) func(*impl.Server) {
	return func(v *impl.Server) { v.Site.Store.Uploads = list }
}

func blobs(list []impl.Blob) func(*impl.Server) {
	return func(v *impl.Server) { v.Site.Store.Blobs = list }
}

func state(changes ...func(*impl.State)) func(*impl.Server) {
	return func(v *impl.Server) { v.Site.State = sortedState(altered(v.Site.State, changes...)) }
}

// checkServe holds Serve against the slow way, and against the promise.
func checkServe(t *testing.T, what string, v impl.Server, text string) (impl.Server, impl.Response) {
	t.Helper()
	got, answer := impl.Serve(v, text)
	want, wantAnswer := slowServe(v, text)
	if answer != wantAnswer || !sameServer(got, want) {
		t.Fatalf("%s: %s is answered by %s, not %s; the server %+v, not %+v", what, short(text), short(answer), short(wantAnswer), got, want)
	}
	if answer == "" { // of one that is not right
		if !isZeroServer(got) {
			t.Errorf("%s: the server %+v", what, got)
		}
		return got, impl.Response{}
	}
	p, ok := impl.ReadResponse(answer)
	if !ok || !impl.ServerOk(got) || got.Leader != v.Leader || got.Site.Node != v.Site.Node {
		t.Fatalf("%s: %s is answered by %s; the server %+v", what, short(text), short(answer), got)
	}
	q, _ := impl.ReadRequest(text)
	if (q.Method == "GET" || q.Method == "HEAD" || v.Leader != v.Site.Node) && !sameServer(got, v) {
		t.Errorf("%s: %s changes something", what, short(text))
	}
	route, _, name := impl.Route(q)
	if route == impl.RtBlob && q.Method == "GET" && p.Status == 200 && digestOf(p.Body) != name {
		t.Errorf("%s: another blob than %s is given", what, name)
	}
	digest, _ := impl.ValueOf(q.Query, "digest")
	if route == impl.RtUpload && p.Status == 201 && !stores(got.Site, digest) {
		t.Errorf("%s: what was pushed is not there", what)
	}
	return got, p
}

// A served is a request to a server, and what comes of it; nothing changes where no change is told.
type served struct {
	what   string
	server impl.Server
	q      impl.Request
	want   impl.Response
	change func(*impl.Server)
}

func checkServed(t *testing.T, rows []served) {
	t.Helper()
	for _, r := range rows {
		text := impl.WriteRequest(r.q)
		if text == "" {
			t.Fatalf("%s: no right request: %+v", r.what, r.q)
		}
		got, p := checkServe(t, r.what, r.server, text)
		if !sameResponse(p, r.want) {
			t.Errorf("%s: %+v, not %+v", r.what, p, r.want)
		}
		want := r.server
		if r.change != nil {
			want = other(r.server, r.change)
		}
		if !sameServer(got, want) {
			t.Errorf("%s: the server %+v, not %+v", r.what, got, want)
		}
	}
}

func TestServiceServerOk(t *testing.T) {
	check := func(what string, v impl.Server, want bool) {
		t.Helper()
		if got := impl.ServerOk(v); got != want || slowServerOk(v) != want {
			t.Errorf("%s: %v", what, got)
		}
		if !want {
			for _, text := range []string{"", "x", impl.WriteRequest(ask("GET", "/v2/", "")), impl.WriteRequest(ask("POST", "/v2/a/blobs/uploads/", ""))} {
				checkServe(t, what, v, text)
			}
		}
	}
	for id, want := range map[int64]bool{-1: false, 0: true, 1: true, 2: true, 49: true, 50: true, 51: false, math.MinInt64: false, math.MaxInt64: false} {
		check(fmt.Sprint("Leader ", id), other(aServer(), leader(id)), want)
	}
	for what, x := range wrongSites() {
		for _, id := range []int64{0, 2, 50} {
			check(what, impl.Server{Site: x, Leader: id}, false)
		}
	}
	for what, s := range rightStates() {
		check(what, other(aServer(), func(v *impl.Server) { v.Site.State = s }), true)
	}
	check("nothing", impl.Server{}, false)
	check("the least", impl.Server{Site: impl.Site{Node: 1, Store: impl.Store{Next: 1}}}, true)
}

func TestServiceRouteByHand(t *testing.T) {
	digest := digestOf("a")
	for _, r := range []struct {
		path       string
		route      int64
		repo, name string
	}{
		{"/v2/", impl.RtRoot, "", ""},
		{"/v2/a/blobs/uploads/", impl.RtUploads, "a", ""},
		{"/v2/a/b/c/blobs/uploads/", impl.RtUploads, "a/b/c", ""},
		{"/v2/a/blobs/uploads/7", impl.RtUpload, "a", "7"},
		{"/v2/a/b/blobs/uploads/x.y", impl.RtUpload, "a/b", "x.y"},
		{"/v2/a/blobs/" + digest, impl.RtBlob, "a", digest},
		{"/v2/a/b/blobs/" + digest, impl.RtBlob, "a/b", digest},
		{"/v2/a/manifests/v1", impl.RtManifest, "a", "v1"},
		{"/v2/a/b/manifests/" + digest, impl.RtManifest, "a/b", digest},
		{"/v2/a/tags/list", impl.RtTags, "a", ""},
		{"/v2/a/b/tags/list", impl.RtTags, "a/b", ""},

		{"/v2/blobs/blobs/x", impl.RtBlob, "blobs", "x"},
		{"/v2/blobs/blobs/blobs", impl.RtBlob, "blobs", "blobs"},
		{"/v2/uploads/blobs/uploads/", impl.RtUploads, "uploads", ""},
		{"/v2/blobs/uploads/blobs/uploads/", impl.RtUploads, "blobs/uploads", ""},
		{"/v2/blobs/uploads/blobs/uploads/uploads", impl.RtUpload, "blobs/uploads", "uploads"},
		{"/v2/a/blobs/uploads/blobs/x", impl.RtBlob, "a/blobs/uploads", "x"},
		{"/v2/a/blobs/uploads", impl.RtBlob, "a", "uploads"},
		{"/v2/a/blobs/x/blobs/y", impl.RtBlob, "a/blobs/x", "y"},
		{"/v2/a/blobs/blobs/uploads/x", impl.RtUpload, "a/blobs", "x"},
		{"/v2/manifests/manifests/manifests", impl.RtManifest, "manifests", "manifests"},
		{"/v2/a/manifests/x/manifests/y", impl.RtManifest, "a/manifests/x", "y"},
		{"/v2/a/blobs/manifests/y", impl.RtManifest, "a/blobs", "y"},
		{"/v2/a/manifests/blobs/y", impl.RtBlob, "a/manifests", "y"},
		{"/v2/tags/list/tags/list", impl.RtTags, "tags/list", ""},
		{"/v2/a/manifests/tags/list", impl.RtTags, "a/manifests", ""},
		{"/v2/a/tags/manifests/list", impl.RtManifest, "a/tags", "list"},
		{"/v2/v2/tags/list", impl.RtTags, "v2", ""},
		{"/v2/A B/tags/list", 0, "", ""},
		{"/v2/A/tags/list", impl.RtTags, "A", ""},
		{"/v2/../tags/list", impl.RtTags, "..", ""},
		{"/v2/a//tags/list", impl.RtTags, "a/", ""},
		{"/v2//a/tags/list", impl.RtTags, "/a", ""},

		{"/v2//blobs/uploads/", impl.RtUploads, "", ""},
		{"/v2//blobs/uploads/7", impl.RtUpload, "", "7"},
		{"/v2//blobs/x", impl.RtBlob, "", "x"},
		{"/v2//manifests/x", impl.RtManifest, "", "x"},
		{"/v2//tags/list", impl.RtTags, "", ""},
		{"/v2/blobs/uploads/", 0, "", ""},
		{"/v2/blobs/uploads/7", 0, "", ""},
		{"/v2/blobs/x", 0, "", ""},
		{"/v2/manifests/x", 0, "", ""},
		{"/v2/tags/list", 0, "", ""},
		{"/v2/uploads/7", 0, "", ""},

		{"/v2/a/blobs/", 0, "", ""},
		{"/v2/a/manifests/", 0, "", ""},
		{"/v2/a/tags/", 0, "", ""},
		{"/v2/a/blobs", 0, "", ""},
		{"/v2/a/manifests", 0, "", ""},
		{"/v2/a/tags", 0, "", ""},
		{"/v2/a/tags/lists", 0, "", ""},
		{"/v2/a/tags/lis", 0, "", ""},
		{"/v2/a/tags/list/", 0, "", ""},
		{"/v2/a/blobs/x/", 0, "", ""},
		{"/v2/a/manifests/x/", 0, "", ""},
		{"/v2/a/blobs/uploads/x/", 0, "", ""},
		{"/v2/a/blobs/uploads//", 0, "", ""},
		{"/v2/a/uploads/", 0, "", ""},
		{"/v2/a/uploads/x", 0, "", ""},
		{"/v2/a/xblobs/uploads/", 0, "", ""},
		{"/v2/a/blobsx/uploads/7", 0, "", ""},
		{"/v2/a/xblobs/x", 0, "", ""},
		{"/v2/a/Blobs/x", 0, "", ""},
		{"/v2/a", 0, "", ""},
		{"/v2/a/", 0, "", ""},
		{"/v2/a/b", 0, "", ""},
		{"/v2//", 0, "", ""},
		{"/v2", 0, "", ""},
		{"/v2x/", 0, "", ""},
		{"/v2x/a/tags/list", 0, "", ""},
		{"/v20/a/tags/list", 0, "", ""},
		{"/v1/a/tags/list", 0, "", ""},
		{"/V2/", 0, "", ""},
		{"//v2/", 0, "", ""},
		{"/", 0, "", ""},
		{"/x", 0, "", ""},
		{"/x/v2/a/tags/list", 0, "", ""},
		{"v2/a/tags/list", 0, "", ""},
		{"", 0, "", ""},
	} {
		for _, q := range []impl.Request{{Method: "GET", Path: r.path}, {Method: "X", Path: r.path, Query: aRequest().Query, Headers: aRequest().Headers, Body: "b"}} {
			if route, repo, name := impl.Route(q); route != r.route || repo != r.repo || name != r.name {
				t.Errorf("%s: %d, %q, %q", r.path, route, repo, name)
			}
			if route, repo, name := slowRoute(q); route != r.route || repo != r.repo || name != r.name {
				t.Errorf("%s, slowly: %d, %q, %q", r.path, route, repo, name)
			}
		}
	}
}

func TestServiceRouteOfAllPaths(t *testing.T) {
	words := []string{"", "a", "v2", "blobs", "uploads", "manifests", "tags", "list"}
	paths := []string{""}
	seen := map[int64]int{}
	for range 5 {
		var longer []string
		for _, path := range paths {
			for _, word := range words {
				longer = append(longer, path+"/"+word)
			}
		}
		paths = longer
		for _, path := range paths {
			for _, head := range []string{"", "/v2"} {
				q := impl.Request{Method: "GET", Path: head + path}
				route, repo, name := impl.Route(q)
				wantRoute, wantRepo, wantName := slowRoute(q)
				if route != wantRoute || repo != wantRepo || name != wantName {
					t.Fatalf("%s: %d, %q, %q; not %d, %q, %q", q.Path, route, repo, name, wantRoute, wantRepo, wantName)
				}
				seen[route]++
			}
		}
	}
	for route := range int64(7) {
		if seen[route] == 0 {
			t.Errorf("no route %d", route)
		}
	}
}

// A Request that is not right is for nothing, whatever its path is.
func TestServiceRouteOfWrongRequests(t *testing.T) {
	long := strings.Repeat("r", 400-len("/v2//tags/list"))
	for _, path := range []string{"/v2/", "/v2/a/blobs/uploads/", "/v2/a/blobs/uploads/7", "/v2/a/blobs/x", "/v2/a/manifests/x", "/v2/a/tags/list", "/v2/" + long + "/tags/list"} {
		right := impl.Request{Method: "GET", Path: path, Query: aRequest().Query, Headers: aRequest().Headers}
		if route, _, _ := impl.Route(right); route == impl.RtNone {
			t.Errorf("%s: none", path)
		}
		for what, change := range map[string]func(*impl.Request){
			"no Method":                func(q *impl.Request) { q.Method = "" },
			"a wrong Method":           func(q *impl.Request) { q.Method = "get" },
			"a long Method":            func(q *impl.Request) { q.Method = "ABCDEFGHIJK" },
			"a blank in the path":      func(q *impl.Request) { q.Path = "/v2/a b" + q.Path[3:] },
			"a # in the path":          func(q *impl.Request) { q.Path = "/v2/#" + q.Path[3:] },
			"a ? in the path":          func(q *impl.Request) { q.Path = "/v2/?" + q.Path[3:] },
			"a path that is long":      func(q *impl.Request) { q.Path = "/v2/" + long + "r/tags/list" },
			"a wrong name in Query":    func(q *impl.Request) { q.Query = []impl.Header{{}} },
			"a wrong value in Query":   func(q *impl.Request) { q.Query = []impl.Header{{Name: "a", Value: "&"}} },
			"21 in Query":              func(q *impl.Request) { q.Query = slices.Repeat([]impl.Header{{Name: "a"}}, 21) },
			"a wrong name in Headers":  func(q *impl.Request) { q.Headers = []impl.Header{{Name: "A"}} },
			"a wrong value in Headers": func(q *impl.Request) { q.Headers = []impl.Header{{Name: "a", Value: " "}} },
			"content-length":           func(q *impl.Request) { q.Headers = []impl.Header{{Name: "content-length", Value: "0"}} },
			"21 Headers":               func(q *impl.Request) { q.Headers = slices.Repeat([]impl.Header{{Name: "a"}}, 21) },
			"a long Body":              func(q *impl.Request) { q.Body = strings.Repeat("b", 20001) },
		} {
			q := copyRequest(right)
			change(&q)
			if route, repo, name := impl.Route(q); route != impl.RtNone || repo != "" || name != "" {
				t.Errorf("%s with %s: %d, %q, %q", path, what, route, repo, name)
			}
		}
	}
}

func TestServiceOfWhatIsNoRequest(t *testing.T) {
	right := impl.WriteRequest(ask("POST", "/v2/a/blobs/uploads/", ""))
	for code, texts := range map[int64][]string{
		impl.RqLong:    {strings.Repeat("x", 40001), right + strings.Repeat("x", 40001)},
		impl.RqLine:    {"", "x", "\r\n\r\n", "POST /v2/a/blobs/uploads/", "POST  /v2/a/blobs/uploads/ HTTP/1.1\r\n\r\n", "post /v2/ HTTP/1.1\r\n\r\n", "GET /v2/ HTTP/1.0\r\n\r\n", "GET /v2/#x HTTP/1.1\r\n\r\n"},
		impl.RqHeaders: {right[:len(right)-2], "GET /v2/ HTTP/1.1\r\n", "GET /v2/ HTTP/1.1\r\nx\r\n\r\n", "GET /v2/ HTTP/1.1\r\ncontent-length: 01\r\n\r\n"},
		impl.RqBody:    {right + "x", "GET /v2/ HTTP/1.1\r\ncontent-length: 1\r\n\r\n"},
	} {
		for _, text := range texts {
			if _, got := impl.ReadRequest(text); got != code {
				t.Fatalf("%s is read with the code %d", short(text), got)
			}
			for _, id := range []int64{0, 2, 3} {
				v := other(aServer(), leader(id))
				got, p := checkServe(t, "no request", v, text)
				if !sameResponse(p, status(400)) || !sameServer(got, v) {
					t.Errorf("%s: %+v", short(text), p)
				}
			}
		}
	}
	if _, text := impl.Serve(aServer(), "x"); text != "HTTP/1.1 400 Bad Request\r\ncontent-length: 0\r\n\r\n" {
		t.Errorf("%q", text)
	}
	loosely := "GET /v2/ HTTP/1.1\r\nX-Any:  thing \r\nContent-Length:0\r\n\r\n"
	if _, p := checkServe(t, "written otherwise", aServer(), loosely); !sameResponse(p, impl.Response{Status: 200, Body: "{}"}) {
		t.Errorf("%+v", p)
	}
}

// tableOfRoutes has, for each route, what stands behind R in its path, and the Methods that it knows.
var tableOfRoutes = []struct {
	route   int64
	tail    string
	methods string
}{
	{impl.RtUploads, "/blobs/uploads/", "POST"},
	{impl.RtUpload, "/blobs/uploads/4", "PATCH PUT"},
	{impl.RtBlob, "/blobs/" + digestOf("a"), "GET HEAD"},
	{impl.RtManifest, "/manifests/v1", "GET HEAD PUT DELETE"},
	{impl.RtTags, "/tags/list", "GET"},
}

var manyMethods = []string{"GET", "HEAD", "POST", "PATCH", "PUT", "DELETE", "OPTIONS", "TRACE", "GETS", "G", "PO"}

func TestServiceMethods(t *testing.T) {
	check := func(path, known, method string, id int64) {
		v := other(aServer(), leader(id))
		got, p := checkServe(t, method+" "+path, v, impl.WriteRequest(ask(method, path, "")))
		isKnown := slices.Contains(strings.Split(known, " "), method)
		moved := isKnown && method != "GET" && method != "HEAD" && id != 2
		want := status(405)
		if moved {
			want = status(307, location(fmt.Sprint("node", id, path)))
		}
		if moved || !isKnown {
			if !sameResponse(p, want) || !sameServer(got, v) {
				t.Errorf("%s %s, led by %d: %+v, not %+v", method, path, id, p, want)
			}
		} else if p.Status == 405 || p.Status == 307 {
			t.Errorf("%s %s, led by %d: %+v", method, path, id, p)
		}
	}
	for _, method := range manyMethods {
		for _, id := range []int64{0, 1, 2, 3, 50} {
			check("/v2/", "GET", method, id)
			for _, row := range tableOfRoutes {
				check("/v2/app"+row.tail, row.methods, method, id)
			}
		}
	}
}

// Faults in the order in which they are asked for: of all that a request has, the first is told.
func TestServiceOrderOfChecks(t *testing.T) {
	const noRequest, noRoute, noRepo, noMethod, noLeader = 1, 2, 4, 8, 16
	for _, row := range tableOfRoutes {
		for method := range strings.SplitSeq(row.methods, " ") {
			for faults := range 32 {
				path, v := "/v2/app"+row.tail, aServer()
				if faults&noRepo != 0 {
					path = "/v2/App" + row.tail
				}
				if faults&noRoute != 0 {
					path += "/none"
				}
				asked := method
				if faults&noMethod != 0 {
					asked = "OPTIONS"
				}
				if faults&noLeader != 0 {
					v.Leader = 7
				}
				text := impl.WriteRequest(ask(asked, path, ""))
				if faults&noRequest != 0 {
					text += "x"
				}
				got, p := checkServe(t, "faults", v, text)
				want := int64(0)
				switch {
				case faults&noRequest != 0:
					want = 400
				case faults&noRoute != 0:
					want = 404
				case faults&noRepo != 0:
					want = 400
				case faults&noMethod != 0:
					want = 405
				case faults&noLeader != 0 && method != "GET" && method != "HEAD":
					want = 307
				}
				if want == 0 {
					continue
				}
				if p.Status != want || len(p.Headers) > 0 != (want == 307) || p.Body != "" || !sameServer(got, v) {
					t.Errorf("%s %s with the faults %d: %+v, not %d", asked, path, faults, p, want)
				}
			}
		}
	}
	far := other(aServer(), leader(7))
	var rows []served
	for _, r := range []struct{ method, target, body, header string }{ // what stands in the tables comes behind who leads
		{"PATCH", "/v2/a/blobs/uploads/x", "", ""}, {"PATCH", "/v2/a/blobs/uploads/99", "", ""}, {"PATCH", "/v2/a/blobs/uploads/3", "", "x-offset: y"}, {"PUT", "/v2/a/blobs/uploads/3", "", ""},
		{"PUT", "/v2/a/manifests/v1", "", ""}, {"PUT", "/v2/a/manifests/:", imageOne, ""}, {"PUT", "/v2/a/manifests/v1", imageOne, "x-session: 1"}, {"DELETE", "/v2/a/manifests/" + digestOf("a"), "", ""}, {"DELETE", "/v2/a/manifests/v9", "", ""},
	} {
		headers := []string{r.header}
		if r.header == "" {
			headers = nil
		}
		rows = append(rows, served{r.method + " " + r.target, far, ask(r.method, r.target, r.body, headers...), status(307, location("node7"+r.target)), nil})
	}
	checkServed(t, rows)
}

func TestServiceMovesTheWholePath(t *testing.T) {
	repo := strings.Repeat("r", 100)
	long := "/v2/" + repo + "/manifests/" + strings.Repeat("x", 400-len("/v2//manifests/")-100)
	for _, id := range []int64{0, 1, 3, 49, 50} {
		v := other(aServer(), leader(id))
		checkServed(t, []served{
			{"the shortest", v, ask("POST", "/v2/a/blobs/uploads/", ""), status(307, location(fmt.Sprintf("node%d/v2/a/blobs/uploads/", id))), nil},
			{"a path of 400 bytes", v, ask("PUT", long, ""), status(307, location(fmt.Sprintf("node%d%s", id, long))), nil},
			{"with Query and Headers", v, ask("PUT", "/v2/a/blobs/uploads/4?digest="+digestOf(""), "b", "location: x", "x-offset: 7"), status(307, location(fmt.Sprintf("node%d/v2/a/blobs/uploads/4", id))), nil},
		})
	}
}

func TestServiceRepositories(t *testing.T) {
	for repo, right := range map[string]bool{
		"app": true, "a/b": true, "a0": true, "a.b": true, "a__b": true, "a--b/c": true, strings.Repeat("r", 100): true, "blobs": true, "uploads/blobs": true, "0": true,
		"": false, "A": false, "a/": false, "/a": false, "a//b": false, "a..b": false, "a___b": false, "-a": false, "a-": false, "a:b": false, "a@b": false, strings.Repeat("r", 101): false, "%61": false,
	} {
		for _, row := range tableOfRoutes {
			for method := range strings.SplitSeq(row.methods, " ") {
				path := "/v2/" + repo + row.tail
				_, p := checkServe(t, path, aServer(), impl.WriteRequest(ask(method, path, "", "x-session: 0 0")))
				bad := p.Status == 400
				isPut := method == "PUT" // without a Body, or a digest, a fault of its own
				if bad == right && !isPut {
					t.Errorf("%s %s: %+v", method, path, p)
				}
			}
		}
	}
}

func TestServiceRoot(t *testing.T) {
	for _, id := range []int64{0, 2, 9} {
		v := other(aServer(), leader(id))
		checkServed(t, []served{
			{"the root", v, ask("GET", "/v2/", ""), impl.Response{Status: 200, Body: "{}"}, nil},
			{"with all", v, ask("GET", "/v2/?a=b", "body", "x-session: y", "x-offset: z"), impl.Response{Status: 200, Body: "{}"}, nil},
			{"HEAD", v, ask("HEAD", "/v2/", ""), status(405), nil},
		})
	}
	if _, text := impl.Serve(aServer(), "GET /v2/ HTTP/1.1\r\n\r\n"); text != "HTTP/1.1 200 OK\r\ncontent-length: 2\r\n\r\n{}" {
		t.Errorf("%q", text)
	}
}

func TestServiceBlobs(t *testing.T) {
	all, more := strings.Repeat("m", 20000), strings.Repeat("n", 20001)
	great := other(aServer(), quota(200000), blobs(blobsOf("a", "", all, more, "\x00\r\n\xff")))
	digest := digestOf("a")
	var rows []served
	for _, id := range []int64{2, 0, 5} {
		v, w := other(aServer(), leader(id)), other(great, leader(id))
		given := func(data string) impl.Response {
			p := withDigest(200, digestOf(data))
			p.Body = data
			return p
		}
		for _, data := range []string{"a", "apple", "x"} { // x is condemned, and there still
			rows = append(rows,
				served{"GET of " + data, v, ask("GET", "/v2/app/blobs/"+digestOf(data), ""), given(data), nil},
				served{"GET of " + data + " by another repository", v, ask("GET", "/v2/other/y/blobs/"+digestOf(data), ""), given(data), nil},
				served{"HEAD of " + data, v, ask("HEAD", "/v2/app/blobs/"+digestOf(data), "", "x-offset: y"), withDigest(200, digestOf(data)), nil})
		}
		for _, data := range []string{"", all, "\x00\r\n\xff"} {
			rows = append(rows,
				served{"GET of a blob", w, ask("GET", "/v2/app/blobs/"+digestOf(data), ""), given(data), nil},
				served{"HEAD of a blob", w, ask("HEAD", "/v2/app/blobs/"+digestOf(data), ""), withDigest(200, digestOf(data)), nil})
		}
		rows = append(rows,
			served{"GET of a blob that is too great", w, ask("GET", "/v2/app/blobs/"+digestOf(more), ""), status(413), nil},
			served{"HEAD of a blob that is too great", w, ask("HEAD", "/v2/app/blobs/"+digestOf(more), ""), withDigest(200, digestOf(more)), nil},
			served{"a blob that State has, but not Store", v, ask("GET", "/v2/app/blobs/"+digestOf("d"), ""), status(404), nil},
			served{"a blob that is nowhere", v, ask("GET", "/v2/app/blobs/"+digestOf("none"), ""), status(404), nil},
			served{"HEAD of a blob that is nowhere", v, ask("HEAD", "/v2/app/blobs/"+digestOf("none"), ""), status(404), nil},
			served{"what an upload has", v, ask("GET", "/v2/app/blobs/"+digestOf("up"), ""), status(404), nil},
			served{"a manifest", v, ask("GET", "/v2/app/blobs/"+digestOf(imageOne), ""), status(404), nil},
			served{"an upload by its digest", v, ask("GET", "/v2/app/blobs/uploads", ""), status(400), nil})
		for _, name := range []string{"x", "a", "v1", digest[:70], digest + "0", strings.ToUpper(digest), "sha256:", digest[7:], "sha512:" + digest[7:]} {
			rows = append(rows,
				served{"GET of " + name, v, ask("GET", "/v2/app/blobs/"+name, ""), status(400), nil},
				served{"HEAD of " + name, v, ask("HEAD", "/v2/app/blobs/"+name, ""), status(400), nil})
		}
	}
	checkServed(t, rows)
}

func TestServiceBeginsUploads(t *testing.T) {
	full := other(aServer(), uploads(manyUploads(10, "")...))
	nine := other(aServer(), uploads(manyUploads(9, "")...))
	begun := func(v *impl.Server) {
		s := &v.Site.Store
		s.Uploads = append(s.Uploads, impl.Upload{Id: s.Next})
		s.Next++
	}
	next := func(n int64) func(*impl.Server) { return func(v *impl.Server) { v.Site.Store.Next = n } }
	repo := strings.Repeat("r", 100)
	checkServed(t, []served{
		{"the next Id", aServer(), ask("POST", "/v2/app/blobs/uploads/", ""), status(202, location("/v2/app/blobs/uploads/12")), begun},
		{"a repository of parts", aServer(), ask("POST", "/v2/a/b/blobs/uploads/", ""), status(202, location("/v2/a/b/blobs/uploads/12")), begun},
		{"the longest repository", aServer(), ask("POST", "/v2/"+repo+"/blobs/uploads/", ""), status(202, location("/v2/"+repo+"/blobs/uploads/12")), begun},
		{"a repository of words", aServer(), ask("POST", "/v2/blobs/uploads/blobs/uploads/", ""), status(202, location("/v2/blobs/uploads/blobs/uploads/12")), begun},
		{"with a Body and Query, which say nothing", aServer(), ask("POST", "/v2/app/blobs/uploads/?digest="+digestOf("x"), "x", "x-offset: 7"), status(202, location("/v2/app/blobs/uploads/12")), begun},
		{"no room for a byte", other(aServer(), quota(12)), ask("POST", "/v2/app/blobs/uploads/", ""), status(202, location("/v2/app/blobs/uploads/12")), begun},
		{"the first", impl.Server{Site: impl.Site{Node: 1, Store: impl.Store{Next: 1}}, Leader: 1}, ask("POST", "/v2/app/blobs/uploads/", ""), status(202, location("/v2/app/blobs/uploads/1")), begun},
		{"the tenth", nine, ask("POST", "/v2/app/blobs/uploads/", ""), status(202, location("/v2/app/blobs/uploads/12")), begun},
		{"the eleventh", full, ask("POST", "/v2/app/blobs/uploads/", ""), status(507), nil},
		{"the last Id", other(aServer(), next(impl.MaxNumber-1)), ask("POST", "/v2/app/blobs/uploads/", ""), status(202, location("/v2/app/blobs/uploads/999999999999")), begun},
		{"no Id left", other(aServer(), next(impl.MaxNumber)), ask("POST", "/v2/app/blobs/uploads/", ""), status(507), nil},
	})
}

func TestServiceCarriesUploadsOn(t *testing.T) {
	v := aServer()
	put := func(place int, data string) func(*impl.Server) {
		return func(v *impl.Server) { v.Site.Store.Uploads[place].Data = data }
	}
	none := other(v, uploads(impl.Upload{Id: 0, Data: "n"}, impl.Upload{Id: 11}))
	last := other(v, func(v *impl.Server) {
		v.Site.Store.Uploads, v.Site.Store.Next = []impl.Upload{{Id: 999999999999}}, impl.MaxNumber
	})
	path := "/v2/app/blobs/uploads/"
	rows := []served{
		{"at the end", v, ask("PATCH", path+"3", "per", "x-offset: 2"), status(202), put(0, "upper")},
		{"by another repository", v, ask("PATCH", "/v2/x/blobs/uploads/3", "per", "x-offset: 2"), status(202), put(0, "upper")},
		{"another one", v, ask("PATCH", path+"9", "zz", "x-offset: 1"), status(202), put(2, "zzz")},
		{"an empty one, with no offset", v, ask("PATCH", path+"4", "data"), status(202), put(1, "data")},
		{"an empty one, at 0", v, ask("PATCH", path+"4", "data", "x-offset: 0"), status(202), put(1, "data")},
		{"nothing more", v, ask("PATCH", path+"3", "", "x-offset: 2"), status(202), nil},
		{"nothing at all", v, ask("PATCH", path+"4", ""), status(202), nil},
		{"with a digest, which says nothing", v, ask("PATCH", path+"4?digest=x", "data"), status(202), put(1, "data")},
		{"the first of two offsets", v, ask("PATCH", path+"3", "p", "x-offset: 2", "x-offset: y"), status(202), put(0, "upp")},
		{"the Id 0", none, ask("PATCH", path+"0", "ew", "x-offset: 1"), status(202), put(0, "new")},
		{"the greatest Id", last, ask("PATCH", path+"999999999999", "new"), status(202), put(0, "new")},
		{"as much as there is room for", v, ask("PATCH", path+"4", strings.Repeat("d", 18)), status(202), put(1, strings.Repeat("d", 18))},
		{"one more than there is room for", v, ask("PATCH", path+"4", strings.Repeat("d", 19)), status(413), nil},
		{"no room", other(v, quota(12)), ask("PATCH", path+"3", "d", "x-offset: 2"), status(413), nil},
		{"no room, and nothing more", other(v, quota(12)), ask("PATCH", path+"3", "", "x-offset: 2"), status(202), nil},
		{"an offset below", v, ask("PATCH", path+"3", "p", "x-offset: 1"), status(400), nil},
		{"an offset above", v, ask("PATCH", path+"3", "p", "x-offset: 3"), status(400), nil},
		{"no offset, where one is needed", v, ask("PATCH", path+"3", "p"), status(400), nil},
		{"the greatest offset", v, ask("PATCH", path+"3", "p", "x-offset: 1000000000000"), status(400), nil},
		{"no such upload", v, ask("PATCH", path+"5", "p"), status(404), nil},
		{"the next Id", v, ask("PATCH", path+"12", "p"), status(404), nil},
		{"the greatest number", v, ask("PATCH", path+"1000000000000", "p"), status(404), nil},
		{"no such upload, at an offset", v, ask("PATCH", path+"5", "p", "x-offset: 9"), status(404), nil},
		{"no such upload, and no offset", v, ask("PATCH", path+"5", "p", "x-offset: y"), status(400), nil},
		{"no such upload, and no room", v, ask("PATCH", path+"5", strings.Repeat("d", 90)), status(404), nil},
		{"a wrong offset, and no room", v, ask("PATCH", path+"3", strings.Repeat("d", 90), "x-offset: 1"), status(400), nil},
		{"no offset, and no room", v, ask("PATCH", path+"3", strings.Repeat("d", 90), "x-offset: "), status(400), nil},
	}
	for _, name := range []string{"x", "-3", "+3", "03", "3x", "3.", "3,", "1000000000001", "9223372036854775808", "3%20", "0x3", "%33", "٣"} {
		if impl.WriteRequest(ask("PATCH", path+name, "")) == "" {
			continue
		}
		rows = append(rows, served{"the Id " + name, v, ask("PATCH", path+name, "p", "x-offset: 2"), status(404), nil},
			served{"the Id " + name + " with no offset", v, ask("PATCH", path+name, "p", "x-offset: y"), status(404), nil},
			served{"the Id " + name + " with PUT", v, ask("PUT", path+name+"?digest="+digestOf("upp"), "p"), status(404), nil},
			served{"the Id " + name + " with PUT and no digest", v, ask("PUT", path+name, ""), status(404), nil})
	}
	for _, offset := range []string{"", "x", "-2", "+2", "02", "2x", "2 2", "1000000000001", "99999999999999999999", "0x2", "2.0"} {
		rows = append(rows, served{"the offset " + offset, v, ask("PATCH", path+"3", "p", "x-offset: "+offset), status(400), nil})
	}
	checkServed(t, rows)
}

// ended is what an upload that is ended leaves: its data among the blobs, and the pin.
func ended(id int64, data string, until int64) func(*impl.Server) {
	return func(v *impl.Server) {
		s := &v.Site.Store
		s.Uploads = slices.DeleteFunc(s.Uploads, func(u impl.Upload) bool { return u.Id == id })
		datas := []string{data}
		for _, b := range s.Blobs {
			if b.Data != data {
				datas = append(datas, b.Data)
			}
		}
		s.Blobs = blobsOf(datas...)
		pins := slices.DeleteFunc(slices.Clone(v.Site.State.Blobs), func(p impl.Pin) bool { return p.Digest == digestOf(data) })
		v.Site.State.Blobs = append(pins, pin(data, until))
		v.Site.State = sortedState(v.Site.State)
	}
}

func TestServiceEndsUploads(t *testing.T) {
	v, path := aServer(), "/v2/app/blobs/uploads/"
	last := other(v, func(v *impl.Server) {
		v.Site.Store.Uploads, v.Site.Store.Next = []impl.Upload{{Id: 999999999999, Data: "las"}}, impl.MaxNumber
	})
	with := func(id, data string) string { return path + id + "?digest=" + digestOf(data) }
	checkServed(t, []served{
		{"with a Body", v, ask("PUT", with("3", "upper"), "per"), withDigest(201, digestOf("upper")), ended(3, "upper", 9)},
		{"without one", v, ask("PUT", with("3", "up"), ""), withDigest(201, digestOf("up")), ended(3, "up", 9)},
		{"an empty one with a Body", v, ask("PUT", with("4", "new"), "new"), withDigest(201, digestOf("new")), ended(4, "new", 9)},
		{"an empty one without", v, ask("PUT", with("4", ""), ""), withDigest(201, digestOf("")), ended(4, "", 9)},
		{"the last one", v, ask("PUT", with("9", "zoo"), "oo"), withDigest(201, digestOf("zoo")), ended(9, "zoo", 9)},
		{"by another repository", v, ask("PUT", "/v2/x/y/blobs/uploads/3?digest="+digestOf("up"), ""), withDigest(201, digestOf("up")), ended(3, "up", 9)},
		{"an offset says nothing", v, ask("PUT", with("3", "upper"), "per", "x-offset: 7"), withDigest(201, digestOf("upper")), ended(3, "upper", 9)},
		{"no offset says nothing", v, ask("PUT", with("3", "upper"), "per", "x-offset: y"), withDigest(201, digestOf("upper")), ended(3, "upper", 9)},
		{"a session says nothing", v, ask("PUT", with("3", "up"), "", "x-session: y"), withDigest(201, digestOf("up")), ended(3, "up", 9)},
		{"a digest twice, the first its own", v, ask("PUT", with("3", "up")+"&digest="+digestOf("no"), ""), withDigest(201, digestOf("up")), ended(3, "up", 9)},
		{"a digest twice, the second its own", v, ask("PUT", with("3", "no")+"&digest="+digestOf("up"), ""), status(400), nil},
		{"a digest behind others", v, ask("PUT", path+"3?a=b&Digest=x&digest="+digestOf("up"), ""), withDigest(201, digestOf("up")), ended(3, "up", 9)},
		{"a blob that is there", v, ask("PUT", with("4", "apple"), "apple"), withDigest(201, digestOf("apple")), ended(4, "apple", 9)},
		{"a blob that is there and pinned", v, ask("PUT", with("4", "b"), "b"), withDigest(201, digestOf("b")), ended(4, "b", 9)},
		{"a blob that is pinned for longer", v, ask("PUT", with("4", "d"), "d"), withDigest(201, digestOf("d")), ended(4, "d", 12)},
		{"as much as there is room for", v, ask("PUT", with("3", "up"+strings.Repeat("d", 18)), strings.Repeat("d", 18)), withDigest(201, digestOf("up"+strings.Repeat("d", 18))), ended(3, "up"+strings.Repeat("d", 18), 9)},
		{"no room, and nothing more", other(v, quota(12)), ask("PUT", with("3", "up"), ""), withDigest(201, digestOf("up")), ended(3, "up", 9)},
		{"one more than there is room for", v, ask("PUT", with("3", "up"+strings.Repeat("d", 19)), strings.Repeat("d", 19)), status(413), nil},
		{"the greatest Id", last, ask("PUT", with("999999999999", "last"), "t"), withDigest(201, digestOf("last")), ended(999999999999, "last", 9)},
		{"another one's digest", v, ask("PUT", with("3", "z"), ""), status(400), nil},
		{"a digest of what was there ahead", v, ask("PUT", with("3", "up"), "per"), status(400), nil},
		{"the digest of Body", v, ask("PUT", with("3", "per"), "per"), status(400), nil},
		{"no digest", v, ask("PUT", path+"3", ""), status(400), nil},
		{"no digest with a Body", v, ask("PUT", path+"3", "per"), status(400), nil},
		{"an empty digest", v, ask("PUT", path+"3?digest=", ""), status(400), nil},
		{"a text for a digest", v, ask("PUT", path+"3?digest=up", ""), status(400), nil},
		{"the digest as a header", v, ask("PUT", path+"3", "", "digest: "+digestOf("up")), status(400), nil},
		{"no such upload", v, ask("PUT", with("5", "up"), ""), status(404), nil},
		{"no such upload with a Body", v, ask("PUT", with("5", "per"), "per"), status(404), nil},
		{"no such upload, another one's digest", v, ask("PUT", with("5", "no"), "per"), status(404), nil},
		{"no such upload, an empty digest", v, ask("PUT", path+"5?digest=", ""), status(404), nil},
		{"no such upload, no room", v, ask("PUT", with("5", "up"), strings.Repeat("d", 90)), status(404), nil},
		{"no such upload with a Body, no digest", v, ask("PUT", path+"5", "per"), status(404), nil},
		{"no such upload without one, no digest", v, ask("PUT", path+"5", ""), status(400), nil},
		{"no room, and no digest", v, ask("PUT", path+"3", strings.Repeat("d", 90)), status(413), nil},
		{"no room, and another one's digest", v, ask("PUT", with("3", "no"), strings.Repeat("d", 90)), status(413), nil},
	})
}

// Where one of the steps has a code, none of them is done.
func TestServiceEndsNoUploads(t *testing.T) {
	path := "/v2/app/blobs/uploads/"
	with := func(id, data string) string { return path + id + "?digest=" + digestOf(data) }
	full := other(aServer(), quota(1000), blobs(manyBlobs(60)))
	nearly := other(full, blobs(manyBlobs(59)))
	pinned := other(aServer(), func(v *impl.Server) { v.Site.State = stateOf(3, 3, 200, 5, 3) })
	almost := other(aServer(), func(v *impl.Server) { v.Site.State = stateOf(3, 3, 199, 5, 3) })
	condemnedToo := other(full, state(moreCondemned("up")))
	end := other(aServer(), state(atEpoch(mostEpoch)))
	checkServed(t, []served{
		{"the 60th blob", nearly, ask("PUT", with("3", "up"), ""), withDigest(201, digestOf("up")), ended(3, "up", 9)},
		{"the 61st blob", full, ask("PUT", with("3", "up"), ""), status(507), nil},
		{"the 61st blob, with a Body", full, ask("PUT", with("3", "upper"), "per"), status(507), nil},
		{"one of the 60", full, ask("PUT", with("4", "07"), "07"), withDigest(201, digestOf("07")), ended(4, "07", 9)},
		{"a condemned blob", aServer(), ask("PUT", with("4", "x"), "x"), status(507), nil},
		{"a condemned blob that is not there", aServer(), ask("PUT", with("4", "y"), "y"), status(507), nil},
		{"the 200th pin", almost, ask("PUT", with("3", "up"), ""), withDigest(201, digestOf("up")), ended(3, "up", 6)},
		{"the 201st pin", pinned, ask("PUT", with("3", "up"), ""), status(507), nil},
		{"the 201st pin, with a Body", pinned, ask("PUT", with("3", "upper"), "per"), status(507), nil},
		{"one of the 200 pins", pinned, ask("PUT", with("4", "blob 9"), "blob 9"), withDigest(201, digestOf("blob 9")), ended(4, "blob 9", 6)},
		{"the 61st blob, condemned", condemnedToo, ask("PUT", with("3", "up"), ""), status(507), nil},
		{"the 61st blob, another one's digest", full, ask("PUT", with("3", "no"), ""), status(400), nil},
		{"a condemned blob, another one's digest", aServer(), ask("PUT", with("4", "x"), "y"), status(400), nil},
		{"the last epoch", end, ask("PUT", with("3", "up"), ""), withDigest(201, digestOf("up")), ended(3, "up", impl.MaxNumber)},
	})
}

func TestServiceUploadsFromTheFirstToTheLast(t *testing.T) {
	v := impl.Server{Site: impl.Site{Node: 1, Store: impl.Store{Quota: 50000, Next: 1}}, Leader: 1}
	pieces := []string{"one", "", "two", strings.Repeat("3", 20000), "\r\n\r\n", "\x00\xff"}
	whole := strings.Join(pieces, "")
	v, p := checkServe(t, "begin", v, impl.WriteRequest(ask("POST", "/v2/a/blobs/uploads/", "")))
	path, _ := impl.ValueOf(p.Headers, "location")
	sent := 0
	for _, piece := range pieces[:5] {
		v, p = checkServe(t, "a piece", v, impl.WriteRequest(ask("PATCH", path, piece, fmt.Sprint("x-offset: ", sent))))
		if sent += len(piece); p.Status != 202 {
			t.Fatal(p)
		}
	}
	v, p = checkServe(t, "end", v, impl.WriteRequest(ask("PUT", path+"?digest="+digestOf(whole), pieces[5])))
	if p.Status != 201 {
		t.Fatal(p)
	}
	if _, p = checkServe(t, "too great", v, impl.WriteRequest(ask("GET", "/v2/a/blobs/"+digestOf(whole), ""))); p.Status != 413 {
		t.Error(p)
	}
	if data, there := impl.GetBlob(v.Site.Store, digestOf(whole)); !there || data != whole || len(v.Site.Store.Uploads) != 0 {
		t.Error("not there")
	}
	if _, p = checkServe(t, "it is gone", v, impl.WriteRequest(ask("PATCH", path, ""))); p.Status != 404 {
		t.Error(p)
	}
}

func TestServiceGivesManifests(t *testing.T) {
	var rows []served
	for _, id := range []int64{2, 0, 7} {
		v := other(aServer(), leader(id))
		for _, r := range []struct{ what, path, text string }{
			{"a tag", "/v2/app/manifests/v1", imageTwo}, {"another tag", "/v2/app/manifests/v2", imageOne}, {"a tag of another repository", "/v2/lib/x/manifests/v1", imageTwo},
			{"a digest", "/v2/app/manifests/" + digestOf(imageOne), imageOne}, {"a digest of no tag", "/v2/app/manifests/" + digestOf(imageThree), imageThree}, {"a digest by another repository", "/v2/none/manifests/" + digestOf(imageTwo), imageTwo},
			{"no tag of the repository", "/v2/lib/x/manifests/v2", ""}, {"a repository that is none", "/v2/none/manifests/v1", ""}, {"a part of a repository", "/v2/lib/manifests/v1", ""}, {"no tag", "/v2/app/manifests/v3", ""}, {"a beginning of a tag", "/v2/app/manifests/v", ""},
			{"a digest of a blob", "/v2/app/manifests/" + digestOf("a"), ""}, {"no digest of any", "/v2/app/manifests/" + digestOf("none"), ""}, {"neither", "/v2/app/manifests/:", ""}, {"neither, with a dot", "/v2/app/manifests/.v1", ""},
			{"a digest in great letters", "/v2/app/manifests/" + strings.ToUpper(digestOf(imageOne)), ""}, {"the digits of a digest", "/v2/app/manifests/" + digestOf(imageOne)[7:], ""},
		} {
			get, head := status(404), status(404)
			if r.text != "" {
				get, head = withDigest(200, digestOf(r.text)), withDigest(200, digestOf(r.text))
				get.Body = r.text
			}
			rows = append(rows, served{r.what, v, ask("GET", r.path, "", "x-session: y"), get, nil}, served{r.what + ", HEAD", v, ask("HEAD", r.path, "body"), head, nil})
		}
	}
	great := rightStates()["a great manifest"]
	v := other(aServer(), func(v *impl.Server) { v.Site.State = great })
	p := withDigest(200, great.Manifests[39].Digest)
	p.Body = great.Manifests[39].Text
	checkServed(t, append(rows, served{"the greatest", v, ask("GET", "/v2/a/manifests/"+p.Headers[0].Value, ""), p, nil}))
}

func putTag(repo, tag, text string) func(*impl.State) {
	return func(s *impl.State) {
		s.Tags = slices.DeleteFunc(s.Tags, func(row impl.TagRow) bool { return row.Repo == repo && row.Tag == tag })
		s.Tags = append(s.Tags, impl.TagRow{Repo: repo, Tag: tag, Digest: digestOf(text)})
	}
}

func putHeld(text string, until int64) func(*impl.State) {
	return func(s *impl.State) {
		s.Manifests = slices.DeleteFunc(s.Manifests, func(h impl.Held) bool { return h.Text == text })
		s.Manifests = append(s.Manifests, held(text, until))
	}
}

func TestServicePutsManifests(t *testing.T) {
	v, fresh := aServer(), image("a", "e")
	digest := digestOf(fresh)
	base := "/v2/app/manifests/"
	wide := image(slices.Repeat([]string{"a"}, 41)...)
	checkServed(t, []served{
		{"under a new tag", v, ask("PUT", base+"v3", fresh), withDigest(201, digest), state(putHeld(fresh, 9), putTag("app", "v3", fresh))},
		{"under a tag that is there", v, ask("PUT", base+"v1", fresh), withDigest(201, digest), state(putHeld(fresh, 9), putTag("app", "v1", fresh))},
		{"under a tag of another repository", v, ask("PUT", "/v2/a/b/manifests/v1", fresh), withDigest(201, digest), state(putHeld(fresh, 9), putTag("a/b", "v1", fresh))},
		{"under the longest tag", v, ask("PUT", base+strings.Repeat("t", 128), fresh), withDigest(201, digest), state(putHeld(fresh, 9), putTag("app", strings.Repeat("t", 128), fresh))},
		{"under a tag of one letter", v, ask("PUT", base+"_", fresh), withDigest(201, digest), state(putHeld(fresh, 9), putTag("app", "_", fresh))},
		{"under its digest", v, ask("PUT", base+digest, fresh), withDigest(201, digest), state(putHeld(fresh, 9))},
		{"of 40 layers", v, ask("PUT", base+"v3", wide), withDigest(201, digestOf(wide)), state(putHeld(wide, 9), putTag("app", "v3", wide))},
		{"one that is there, under its digest", v, ask("PUT", base+digestOf(imageThree), imageThree), withDigest(201, digestOf(imageThree)), state(heldUntil(imageThree, 9))},
		{"one that is there, under its tag", v, ask("PUT", base+"v1", imageTwo), withDigest(201, digestOf(imageTwo)), state(heldUntil(imageTwo, 9))},
		{"one that is kept for long enough", v, ask("PUT", base+"v2", imageOne), withDigest(201, digestOf(imageOne)), nil},
		{"a digest in Query says nothing", v, ask("PUT", base+"v3?digest=x", fresh, "x-offset: y"), withDigest(201, digest), state(putHeld(fresh, 9), putTag("app", "v3", fresh))},

		{"under another digest", v, ask("PUT", base+digestOf("no"), fresh), status(400), nil},
		{"under the digest of another one", v, ask("PUT", base+digestOf(imageOne), fresh), status(400), nil},
		{"under neither", v, ask("PUT", base+".v3", fresh), status(400), nil},
		{"under a digest in great letters", v, ask("PUT", base+strings.ToUpper(digest), fresh), status(400), nil},
		{"under the digest's digits and one more", v, ask("PUT", base+digest+"0", fresh), status(400), nil},
		{"under a tag that is too long", v, ask("PUT", base+strings.Repeat("t", 129), fresh), status(400), nil},
		{"under a tag with a colon", v, ask("PUT", base+"v:3", fresh), status(400), nil},
		{"with no Body", v, ask("PUT", base+"v3", ""), status(400), nil},
		{"with a Body that is none", v, ask("PUT", base+"v3", "text"), status(400), nil},
		{"with a Body that is none, under its digest", v, ask("PUT", base+digestOf("text"), "text"), status(400), nil},
		{"with nothing, under its digest", v, ask("PUT", base+digestOf(""), ""), status(400), nil},
		{"with no layer", v, ask("PUT", base+"v3", image("a")), status(400), nil},
		{"with 41 layers", v, ask("PUT", base+"v3", image(slices.Repeat([]string{"a"}, 42)...)), status(400), nil},
		{"with a byte behind", v, ask("PUT", base+"v3", fresh+"\n"), status(400), nil},
		{"not ended", v, ask("PUT", base+"v3", fresh[:len(fresh)-1]), status(400), nil},
		{"with a blob that is not known", v, ask("PUT", base+"v3", image("a", "new")), status(400), nil},
		{"with a config that is not known", v, ask("PUT", base+"v3", image("new", "a")), status(400), nil},
		{"with a condemned blob", v, ask("PUT", base+"v3", image("a", "x")), status(400), nil},
		{"with a blob that is not known, under its digest", v, ask("PUT", base+digestOf(image("a", "new")), image("a", "new")), status(400), nil},
	})
}

func TestServicePutsManifestsOfSessions(t *testing.T) {
	v, fresh, unknown := aServer(), image("a", "e"), image("a", "new")
	digest := digestOf(fresh)
	base := "/v2/app/manifests/"
	tag := func(session string) impl.Request { return ask("PUT", base+"v3", fresh, "x-session: "+session) }
	byDigest := func(session string) impl.Request {
		return ask("PUT", base+digest, fresh, "x-session: "+session)
	}
	both := []func(*impl.State){putHeld(fresh, 9), putTag("app", "v3", fresh)}
	with := func(more ...func(*impl.State)) func(*impl.Server) { return state(slices.Concat(both, more)...) }
	rows := []served{
		{"a new one, a tag", v, tag("5 1"), withDigest(201, digest), with(session(5, 1, 0))},
		{"a new one, a digest", v, byDigest("5 1"), withDigest(201, digest), state(putHeld(fresh, 9), session(5, 1, 0))},
		{"a Serial of 0", v, tag("5 0"), withDigest(201, digest), with(session(5, 0, 0))},
		{"the greatest of both", v, tag("1000000000000 1000000000000"), withDigest(201, digest), with(session(impl.MaxNumber, impl.MaxNumber, 0))},
		{"none, by 0 and 0", v, tag("0 0"), withDigest(201, digest), with()},
		{"none, with a Serial", v, tag("0 7"), withDigest(201, digest), with()},
		{"one that is there, later", v, tag("3 6"), withDigest(201, digest), with(session(3, 6, 0))},
		{"one that is there, later, a digest", v, byDigest("8 1"), withDigest(201, digest), state(putHeld(fresh, 9), session(8, 1, 0))},
		{"the first of two", v, ask("PUT", base+"v3", fresh, "x-session: 5 1", "x-session: y"), withDigest(201, digest), with(session(5, 1, 0))},
		{"sent again: the tag is not put", v, tag("3 5"), withDigest(201, digest), state(putHeld(fresh, 9))},
		{"sent again, a digest: nothing is put", v, byDigest("3 5"), withDigest(201, digest), nil},
		{"sent again, RgUnknown there, a tag", v, tag("8 0"), status(400), state(putHeld(fresh, 9))},
		{"sent again, RgUnknown there, a digest", v, byDigest("8 0"), status(400), nil},
		{"sent again, another code there, a tag", v, tag("9 1000000000000"), status(507), state(putHeld(fresh, 9))},
		{"sent again, another code there, a digest", v, byDigest("9 1000000000000"), status(507), nil},
		{"older, a tag", v, tag("3 4"), status(507), state(putHeld(fresh, 9))},
		{"older, a digest", v, byDigest("3 4"), status(507), nil},
		{"not known, a tag: the first has no session", v, ask("PUT", base+"v3", unknown, "x-session: 5 1"), status(400), nil},
		{"not known, a digest", v, ask("PUT", base+digestOf(unknown), unknown, "x-session: 5 1"), status(400), state(session(5, 1, 3))},
		{"not known, a digest, sent again with RgOk", v, ask("PUT", base+digestOf(unknown), unknown, "x-session: 3 5"), withDigest(201, digestOf(unknown)), nil},
		{"not known, a tag, sent again with RgOk", v, ask("PUT", base+"v3", unknown, "x-session: 3 5"), status(400), nil},
	}
	for _, text := range wrongSessions {
		rows = append(rows,
			served{"the session " + text + ", a tag", v, tag(text), status(400), nil},
			served{"the session " + text + ", a digest", v, byDigest(text), status(400), nil},
			served{"the session " + text + ", not known", v, ask("PUT", base+"v3", unknown, "x-session: "+text), status(400), nil},
			served{"the session " + text + ", DELETE", v, ask("DELETE", base+"v1", "", "x-session: "+text), status(400), nil},
			served{"the session " + text + ", DELETE of no tag", v, ask("DELETE", base+"v9", "", "x-session: "+text), status(400), nil})
	}
	checkServed(t, rows)
}

var wrongSessions = []string{
	"", "5", "5 1 2", "5  1", "05 1", "5 01", "5 00", "00 1", "-5 1", "5 -1", "+5 1", "5 +1", "x 1", "5 x", "5,1", "5_1", "5 1,", "1000000000001 1", "5 1000000000001", "9223372036854775808 1", "5 99999999999999999999", "0x5 1", "5.0 1",
}

// Each code of Apply at the first and at the second command.
func TestServicePutsNoManifests(t *testing.T) {
	fresh := image("blob 1", "blob 2")
	base := "/v2/app/manifests/"
	put := func(name string, headers ...string) impl.Request { return ask("PUT", base+name, fresh, headers...) }
	at := func(s impl.State) impl.Server { return other(aServer(), func(v *impl.Server) { v.Site.State = s }) }
	manifests, tags, sessions := at(stateOf(40, 100, 50, 3, 3)), at(stateOf(39, 100, 50, 3, 3)), at(stateOf(39, 99, 50, 3, 20))
	known, digest := image("blob 0", "blob 7"), digestOf(fresh)
	checkServed(t, []served{
		{"the 41st manifest, a tag", manifests, put("v1"), status(507), nil},
		{"the 41st manifest, a tag and a session", manifests, put("v1", "x-session: 50 1"), status(507), nil},
		{"the 41st manifest, a tag and a session sent again", manifests, put("v1", "x-session: 1 10"), status(507), nil},
		{"the 41st manifest, a tag and no session", manifests, put("v1", "x-session: 50"), status(400), nil},
		{"the 41st manifest, a digest", manifests, put(digest), status(507), nil},
		{"the 41st manifest, a digest and a session", manifests, put(digest, "x-session: 50 1"), status(507), state(session(50, 1, 5))},
		{"the 41st manifest, a digest and a session that is there", manifests, put(digest, "x-session: 2 11"), status(507), state(session(2, 11, 5))},
		{"one of the 40, a tag that is there", manifests, ask("PUT", "/v2/repo0/manifests/t0", known), withDigest(201, digestOf(known)), state(heldUntil(known, 6), putTag("repo0", "t0", known))},
		{"the 101st tag", tags, put("v1"), status(507), state(putHeld(fresh, 6))},
		{"the 101st tag, and a session", tags, put("v1", "x-session: 50 1"), status(507), state(putHeld(fresh, 6), session(50, 1, 5))},
		{"the 101st tag, sent again", tags, put("v1", "x-session: 1 10"), withDigest(201, digest), state(putHeld(fresh, 6))},
		{"the 101st tag, older", tags, put("v1", "x-session: 1 9"), status(507), state(putHeld(fresh, 6))},
		{"the 40th manifest, a digest", tags, put(digest), withDigest(201, digest), state(putHeld(fresh, 6))},
		{"one of the 100 tags", tags, ask("PUT", "/v2/repo0/manifests/t0", fresh), withDigest(201, digest), state(putHeld(fresh, 6), putTag("repo0", "t0", fresh))},
		{"the 21st session, a tag", sessions, put("v1", "x-session: 50 1"), status(507), state(putHeld(fresh, 6))},
		{"the 21st session, a digest", sessions, put(digest, "x-session: 50 1"), status(507), nil},
		{"one of the 20 sessions", sessions, put("v1", "x-session: 20 11"), withDigest(201, digest), state(putHeld(fresh, 6), putTag("app", "v1", fresh), session(20, 11, 0))},
		{"no session of 20", sessions, put("v1"), withDigest(201, digest), state(putHeld(fresh, 6), putTag("app", "v1", fresh))},
	})
}

func cutTag(repo, tag string) func(*impl.State) {
	return func(s *impl.State) {
		s.Tags = slices.DeleteFunc(s.Tags, func(row impl.TagRow) bool { return row.Repo == repo && row.Tag == tag })
	}
}

func TestServiceDropsTags(t *testing.T) {
	v, base := aServer(), "/v2/app/manifests/"
	full := other(v, func(v *impl.Server) { v.Site.State = stateOf(3, 9, 5, 2, 20) })
	checkServed(t, []served{
		{"a tag", v, ask("DELETE", base+"v1", ""), status(202), state(cutTag("app", "v1"))},
		{"another tag", v, ask("DELETE", base+"v2", "body"), status(202), state(cutTag("app", "v2"))},
		{"a tag of another repository", v, ask("DELETE", "/v2/lib/x/manifests/v1", ""), status(202), state(cutTag("lib/x", "v1"))},
		{"a tag of a session", v, ask("DELETE", base+"v1", "", "x-session: 5 2"), status(202), state(cutTag("app", "v1"), session(5, 2, 0))},
		{"a tag of no session", v, ask("DELETE", base+"v1", "", "x-session: 0 2"), status(202), state(cutTag("app", "v1"))},
		{"the longest tag", v, ask("DELETE", base+strings.Repeat("t", 128), ""), status(404), nil},
		{"no tag of the repository", v, ask("DELETE", base+"v3", ""), status(404), nil},
		{"no tag of the repository, and a session", v, ask("DELETE", base+"v3", "", "x-session: 5 2"), status(404), state(session(5, 2, 3))},
		{"no repository", v, ask("DELETE", "/v2/none/manifests/v1", ""), status(404), nil},
		{"a digest", v, ask("DELETE", base+digestOf(imageOne), ""), status(400), nil},
		{"a digest, and a session", v, ask("DELETE", base+digestOf(imageOne), "", "x-session: 5 2"), status(400), nil},
		{"a digest of none", v, ask("DELETE", base+digestOf("none"), ""), status(400), nil},
		{"neither", v, ask("DELETE", base+"-v1", ""), status(400), nil},
		{"a tag that is too long", v, ask("DELETE", base+strings.Repeat("t", 129), ""), status(400), nil},
		{"sent again", v, ask("DELETE", base+"v1", "", "x-session: 3 5"), status(202), nil},
		{"sent again, RgUnknown there", v, ask("DELETE", base+"v1", "", "x-session: 8 0"), status(404), nil},
		{"sent again, another code there", v, ask("DELETE", base+"v1", "", "x-session: 9 1000000000000"), status(507), nil},
		{"older", v, ask("DELETE", base+"v1", "", "x-session: 3 4"), status(507), nil},
		{"the 21st session", full, ask("DELETE", "/v2/repo0/manifests/t0", "", "x-session: 50 1"), status(507), nil},
		{"one of the 20 sessions", full, ask("DELETE", "/v2/repo0/manifests/t0", "", "x-session: 7 11"), status(202), state(cutTag("repo0", "t0"), session(7, 11, 0))},
	})
}

func TestServiceListsTags(t *testing.T) {
	many := stateOf(1, 0, 1, 0, 0)
	var list string
	for i := range 100 {
		tag := strings.Repeat("t", 125) + fmt.Sprintf("%03d", i)
		many.Tags = append(many.Tags, impl.TagRow{Repo: "app", Tag: tag, Digest: many.Manifests[0].Digest})
		list += tag + "\n"
	}
	odd := altered(aState(), putTag("app", "V", imageOne), putTag("app", "_", imageOne), putTag("app", "0", imageOne), putTag("app", "v10", imageOne), putTag("ap", "z", imageOne), putTag("app/x", "y", imageOne))
	var rows []served
	for _, id := range []int64{2, 0, 9} {
		v := other(aServer(), leader(id))
		rows = append(rows,
			served{"several", v, ask("GET", "/v2/app/tags/list", ""), impl.Response{Status: 200, Body: "v1\nv2\n"}, nil},
			served{"one", v, ask("GET", "/v2/lib/x/tags/list?n=1", "body", "x-session: y"), impl.Response{Status: 200, Body: "v1\n"}, nil},
			served{"none", v, ask("GET", "/v2/none/tags/list", ""), status(200), nil},
			served{"a part of a repository", v, ask("GET", "/v2/lib/tags/list", ""), status(200), nil},
			served{"a beginning of one", v, ask("GET", "/v2/ap/tags/list", ""), status(200), nil},
			served{"HEAD", v, ask("HEAD", "/v2/app/tags/list", ""), status(405), nil},
			served{"by bytes", other(v, func(v *impl.Server) { v.Site.State = sortedState(odd) }), ask("GET", "/v2/app/tags/list", ""), impl.Response{Status: 200, Body: "0\nV\n_\nv1\nv10\nv2\n"}, nil},
			served{"as many and as long as can be", other(v, func(v *impl.Server) { v.Site.State = many }), ask("GET", "/v2/app/tags/list", ""), impl.Response{Status: 200, Body: list}, nil},
			served{"nothing there", other(v, func(v *impl.Server) { v.Site.State = impl.State{} }), ask("GET", "/v2/app/tags/list", ""), status(200), nil})
	}
	checkServed(t, rows)
}

// A serverAnswer is what Serve or Route answers.
type serverAnswer struct {
	server impl.Server
	rest   string
}

func (a serverAnswer) parts() []part {
	return partsOfSites("the answer's site", []impl.Site{a.server.Site})
}

func (a serverAnswer) clone() serverAnswer {
	return serverAnswer{copyServer(a.server), a.rest}
}

func (a serverAnswer) same(b serverAnswer) bool {
	return a.rest == b.rest && sameServer(a.server, b.server)
}

// manyAsks have an answer of each kind from a server like aServer.
func manyAsks() []impl.Request {
	fresh, path := image("a", "e"), "/v2/app/blobs/uploads/"
	return []impl.Request{
		ask("GET", "/v2/", ""), ask("GET", "/x", ""), ask("GET", "/v2/A/tags/list", ""), ask("X", "/v2/", ""), ask("GET", "/v2/app/tags/list", ""),
		ask("GET", "/v2/app/blobs/"+digestOf("a"), ""), ask("HEAD", "/v2/app/blobs/"+digestOf("a"), ""), ask("GET", "/v2/app/blobs/"+digestOf("none"), ""), ask("GET", "/v2/app/blobs/x", ""),
		ask("POST", path, ""), ask("PATCH", path+"3", "p", "x-offset: 2"), ask("PATCH", path+"3", "p"), ask("PATCH", path+"5", "p"), ask("PATCH", path+"4", strings.Repeat("d", 99)),
		ask("PUT", path+"3?digest="+digestOf("upper"), "per"), ask("PUT", path+"3?digest="+digestOf("up"), ""), ask("PUT", path+"3?digest="+digestOf("no"), "per"), ask("PUT", path+"3", "per"), ask("PUT", path+"4?digest="+digestOf("x"), "x"), ask("PUT", path+"4?digest="+digestOf("a"), "a"),
		ask("GET", "/v2/app/manifests/v1", ""), ask("HEAD", "/v2/app/manifests/"+digestOf(imageOne), ""), ask("GET", "/v2/app/manifests/none", ""),
		ask("PUT", "/v2/app/manifests/v3", fresh), ask("PUT", "/v2/app/manifests/"+digestOf(fresh), fresh, "x-session: 5 1"), ask("PUT", "/v2/app/manifests/v1", image("a", "new")), ask("PUT", "/v2/app/manifests/v3", fresh, "x-session: 3 4"), ask("PUT", "/v2/app/manifests/v3", "x"),
		ask("DELETE", "/v2/app/manifests/v1", ""), ask("DELETE", "/v2/app/manifests/v9", "", "x-session: 5 1"), ask("DELETE", "/v2/app/manifests/"+digestOf("a"), ""),
	}
}

func TestServiceAnswersAreTheirOwn(t *testing.T) {
	shared := aServer()
	shared.Site.Store.Uploads = nil
	for what, v := range map[string]impl.Server{
		"a server": aServer(), "one that does not lead": other(aServer(), leader(3)), "a wrong one": other(aServer(), leader(51)), "a wrong store": other(aServer(), quota(3)), "nothing": {}, "no uploads": shared,
		"a full one": other(aServer(), quota(1000), blobs(manyBlobs(60)), func(v *impl.Server) { v.Site.State = stateOf(40, 100, 200, 20, 20) }),
	} {
		v.Site = roomySite(v.Site)
		parts := partsOfSites("the argument's site", []impl.Site{v.Site})
		for _, q := range manyAsks() {
			text := impl.WriteRequest(q)
			checkOwn(t, fmt.Sprint(q.Method, " ", q.Path, " of ", what), parts, func() serverAnswer {
				got, answer := impl.Serve(v, text)
				return serverAnswer{got, answer}
			})
		}
		checkOwn(t, "no request of "+what, parts, func() serverAnswer {
			got, answer := impl.Serve(v, "x")
			return serverAnswer{got, answer}
		})
		checkOwn(t, "ServerOk of "+what, parts, func() serverAnswer { return serverAnswer{rest: fmt.Sprint(impl.ServerOk(v))} })
	}
	for _, q := range manyAsks() {
		q.Query, q.Headers = roomy(q.Query, impl.Header{Name: "spare"}), roomy(q.Headers, impl.Header{Name: "spare"})
		parts := []part{partOf("the argument's Query", q.Query, impl.Header{Name: "spoiled"}), partOf("the argument's Headers", q.Headers, impl.Header{Name: "spoiled"})}
		checkOwn(t, "Route of "+q.Path, parts, func() serverAnswer {
			route, repo, name := impl.Route(q)
			return serverAnswer{rest: fmt.Sprint(route, repo, " ", name)}
		})
	}
}

func TestServiceAtTheSameTime(t *testing.T) {
	v := aServer()
	v.Site = roomySite(v.Site)
	asks := manyAsks()
	first := make([]serverAnswer, len(asks))
	for i, q := range asks {
		got, text := impl.Serve(v, impl.WriteRequest(q))
		first[i] = serverAnswer{got, text}
	}
	var all sync.WaitGroup
	for worker := range 8 {
		all.Go(func() {
			for n := range 2 * len(asks) {
				i := (n*7 + worker) % len(asks)
				got, text := impl.Serve(v, impl.WriteRequest(asks[i]))
				route, repo, name := impl.Route(asks[i])
				wantRoute, wantRepo, wantName := slowRoute(asks[i])
				if a := (serverAnswer{got, text}); !a.same(first[i]) || route != wantRoute || repo != wantRepo || name != wantName {
					t.Errorf("%s %s: another answer at the same time", asks[i].Method, asks[i].Path)
				}
			}
		})
	}
	all.Wait()
}

func TestServiceOfOddArguments(t *testing.T) {
	long := strings.Repeat("/v2/", 100000)
	if route, repo, name := impl.Route(impl.Request{Method: "GET", Path: long + "a/tags/list"}); route != 0 || repo != "" || name != "" {
		t.Error(route, repo, name)
	}
	for _, text := range []string{long, "GET " + long + " HTTP/1.1\r\n\r\n", strings.Repeat("\r\n", 15000), "\x00", "GET /v2/\xff HTTP/1.1\r\n\r\n"} {
		if _, p := checkServe(t, "odd", aServer(), text); p.Status != 400 {
			t.Error(p)
		}
	}
	huge := impl.Server{Site: impl.Site{Node: math.MaxInt64, Store: impl.Store{Quota: math.MaxInt64, Next: math.MinInt64}, State: impl.State{Epoch: math.MaxInt64}}, Leader: math.MaxInt64}
	if got, text := impl.Serve(huge, "GET /v2/ HTTP/1.1\r\n\r\n"); text != "" || !isZeroServer(got) || impl.ServerOk(huge) {
		t.Error("a huge server is right")
	}
}
