package tests

import (
	"fmt"
	"math"
	"math/rand/v2"
	"regexp"
	"slices"
	"strconv"
	"strings"
	"testing"

	"loop.example/g00141/impl"
)

const crlf = "\r\n"

// rawHeaders are the lines of Headers, right or not.
func rawHeaders(list []impl.Header) string {
	text := ""
	for _, h := range list {
		text += h.Name + ": " + h.Value + crlf
	}
	return text
}

func rawTail(headers []impl.Header, body string) string {
	return rawHeaders(headers) + fmt.Sprintf("content-length: %d\r\n\r\n%s", len(body), body)
}

// rawRequest is what chapter 16 writes of a Request, right or not.
func rawRequest(q impl.Request) string {
	text := q.Method + " " + q.Path
	for i, h := range q.Query {
		mark := "&"
		if i == 0 {
			mark = "?"
		}
		text += mark + h.Name + "=" + h.Value
	}
	return text + " HTTP/1.1\r\n" + rawTail(q.Headers, q.Body)
}

var reasons = map[int64]string{
	200: "OK", 201: "Created", 202: "Accepted", 204: "No Content", 307: "Temporary Redirect", 400: "Bad Request",
	404: "Not Found", 405: "Method Not Allowed", 413: "Content Too Large", 507: "Insufficient Storage",
}

func rawResponse(p impl.Response) string {
	return fmt.Sprintf("HTTP/1.1 %d %s\r\n", p.Status, reasons[p.Status]) + rawTail(p.Headers, p.Body)
}

// The slow way of chapter 16: by forms, over the whole text, beside the program.

var (
	methodForm      = regexp.MustCompile(`\A[A-Z]{1,10}\z`)
	pathForm        = regexp.MustCompile(`\A/[\x21-\x22\x24-\x3e\x40-\x7e]{0,399}\z`)
	queryNameForm   = regexp.MustCompile(`\A[\x21-\x22\x24-\x25\x27-\x3c\x3e-\x7e]{1,60}\z`)
	queryValueForm  = regexp.MustCompile(`\A[\x21-\x22\x24-\x25\x27-\x3c\x3e-\x7e]{0,200}\z`)
	headerNameForm  = regexp.MustCompile(`\A[a-z-]{1,60}\z`)
	headerValueForm = regexp.MustCompile(`\A([\x21-\x7e]|[\x21-\x7e][\x20-\x7e]{0,498}[\x21-\x7e])?\z`)
	headerLineForm  = regexp.MustCompile(`\A([A-Za-z-]{1,60}):([\x20-\x7e]*)\z`)
	decimalForm     = regexp.MustCompile(`\A(0|[1-9][0-9]{0,14})\z`)
)

func slowAskOk(q impl.Request) bool {
	for _, h := range q.Query {
		if !queryNameForm.MatchString(h.Name) || !queryValueForm.MatchString(h.Value) {
			return false
		}
	}
	return methodForm.MatchString(q.Method) && pathForm.MatchString(q.Path) && len(q.Query) <= 20
}

func slowTailOk(headers []impl.Header, body string) bool {
	for _, h := range headers {
		if !headerNameForm.MatchString(h.Name) || h.Name == "content-length" || !headerValueForm.MatchString(h.Value) {
			return false
		}
	}
	return len(headers) <= 20 && len(body) <= 20000
}

func slowRequestOk(q impl.Request) bool {
	return slowAskOk(q) && slowTailOk(q.Headers, q.Body)
}

func slowResponseOk(p impl.Response) bool {
	return reasons[p.Status] != "" && slowTailOk(p.Headers, p.Body)
}

func slowReadAsk(line string) (q impl.Request, ok bool) {
	words := strings.Split(line, " ")
	if len(words) != 3 || words[2] != "HTTP/1.1" {
		return q, false
	}
	q.Method, q.Path = words[0], words[1]
	if at := strings.Index(q.Path, "?"); at >= 0 {
		for _, row := range strings.Split(q.Path[at+1:], "&") {
			parts := strings.Split(row, "=")
			if len(parts) != 2 {
				return q, false
			}
			q.Query = append(q.Query, impl.Header{Name: parts[0], Value: parts[1]})
		}
		q.Path = q.Path[:at]
	}
	return q, slowAskOk(q)
}

func slowReadRequest(text string) (impl.Request, int64) {
	end := strings.Index(text, "\r\n")
	stop := strings.Index(text, "\r\n\r\n")
	if len(text) > 40000 {
		return impl.Request{}, impl.RqLong
	}
	if end < 0 {
		return impl.Request{}, impl.RqLine
	}
	q, ok := slowReadAsk(text[:end])
	if !ok {
		return impl.Request{}, impl.RqLine
	}
	if stop < 0 {
		return impl.Request{}, impl.RqHeaders
	}
	var lengths []string
	for i, line := range strings.Split(text[end:stop], "\r\n") {
		if i == 0 { // what stands between the first line and its end
			continue
		}
		parts := headerLineForm.FindStringSubmatch(line)
		if parts == nil {
			return impl.Request{}, impl.RqHeaders
		}
		name, value := strings.ToLower(parts[1]), strings.Trim(parts[2], " ")
		if name == "content-length" {
			lengths = append(lengths, value)
		} else {
			q.Headers = append(q.Headers, impl.Header{Name: name, Value: value})
		}
	}
	if !slowTailOk(q.Headers, "") || len(lengths) > 1 {
		return impl.Request{}, impl.RqHeaders
	}
	size := 0
	if len(lengths) == 1 {
		n, err := strconv.Atoi(lengths[0])
		if err != nil || !decimalForm.MatchString(lengths[0]) || n > 20000 {
			return impl.Request{}, impl.RqHeaders
		}
		size = n
	}
	q.Body = text[stop+4:]
	if len(q.Body) != size {
		return impl.Request{}, impl.RqBody
	}
	return q, 0
}

// slowReadResponse tries each Status: what stands behind its first line has to be what is written of what it says.
func slowReadResponse(text string) (impl.Response, bool) {
	for status, reason := range reasons {
		tail, ok := strings.CutPrefix(text, fmt.Sprintf("HTTP/1.1 %d %s\r\n", status, reason))
		if !ok {
			continue
		}
		q, code := slowReadRequest("GET / HTTP/1.1\r\n" + tail)
		p := impl.Response{Status: status, Headers: q.Headers, Body: q.Body}
		if code == 0 && rawResponse(p) == text {
			return p, true
		}
	}
	return impl.Response{}, false
}

func sameRequest(a, b impl.Request) bool {
	return a.Method == b.Method && a.Path == b.Path && a.Body == b.Body && slices.Equal(a.Query, b.Query) && slices.Equal(a.Headers, b.Headers)
}

func sameResponse(a, b impl.Response) bool {
	return a.Status == b.Status && a.Body == b.Body && slices.Equal(a.Headers, b.Headers)
}

func copyRequest(q impl.Request) impl.Request {
	q.Query, q.Headers = slices.Clone(q.Query), slices.Clone(q.Headers)
	return q
}

func aRequest() impl.Request {
	return impl.Request{
		Method: "PUT", Path: "/v2/a/b", Query: []impl.Header{{Name: "n", Value: "1"}, {Name: "digest"}},
		Headers: []impl.Header{{Name: "host", Value: "x y"}, {Name: "x-offset"}}, Body: "hi",
	}
}

// short is a text for a fault: of a long one the beginning.
func short(text string) string {
	return fmt.Sprintf("%.300q", text)
}

// checkReadRequest holds ReadRequest against the slow way; what is read is right.
func checkReadRequest(t *testing.T, what, text string) (impl.Request, int64) {
	t.Helper()
	got, code := impl.ReadRequest(text)
	want, wantCode := slowReadRequest(text)
	if code != wantCode || !sameRequest(got, want) {
		t.Fatalf("%s: %s is read as %s, %d; not %s, %d", what, short(text), short(fmt.Sprint(got)), code, short(fmt.Sprint(want)), wantCode)
	}
	if code != 0 && !sameRequest(got, impl.Request{}) {
		t.Errorf("%s: code %d with %s", what, code, short(fmt.Sprint(got)))
	}
	if code == 0 && (!impl.RequestOk(got) || !slowRequestOk(got)) {
		t.Errorf("%s: what is read is not right: %s", what, short(fmt.Sprint(got)))
	}
	return got, code
}

// checkRequest holds RequestOk and WriteRequest against the slow way; right ones come back from their bytes.
func checkRequest(t *testing.T, what string, q impl.Request, right bool) {
	t.Helper()
	if got := impl.RequestOk(q); got != right || slowRequestOk(q) != right {
		t.Errorf("%s: RequestOk %v, slowly %v", what, got, slowRequestOk(q))
	}
	text := impl.WriteRequest(q)
	if !right {
		if text != "" {
			t.Errorf("%s: written as %s", what, short(text))
		}
		return
	}
	if text != rawRequest(q) {
		t.Errorf("%s: written as %s", what, short(text))
	}
	if back, code := checkReadRequest(t, what, text); code != 0 || !sameRequest(back, q) {
		t.Errorf("%s: comes back as %s, %d", what, short(fmt.Sprint(back)), code)
	}
}

// checkResponse does the same for responses.
func checkResponse(t *testing.T, what string, p impl.Response, right bool) {
	t.Helper()
	text := impl.WriteResponse(p)
	if slowResponseOk(p) != right {
		t.Errorf("%s: slowly %v", what, slowResponseOk(p))
	}
	if right && text != rawResponse(p) || !right && text != "" {
		t.Errorf("%s: written as %s", what, short(text))
	}
	if right {
		if back, ok := impl.ReadResponse(text); !ok || !sameResponse(back, p) {
			t.Errorf("%s: comes back as %s, %v", what, short(fmt.Sprint(back)), ok)
		}
	}
	checkReadResponse(t, what, rawResponse(p), right)
}

func checkReadResponse(t *testing.T, what, text string, right bool) {
	t.Helper()
	got, ok := impl.ReadResponse(text)
	want, wantOk := slowReadResponse(text)
	if ok != right || ok != wantOk || !sameResponse(got, want) {
		t.Errorf("%s: %s is read as %s, %v; slowly %v", what, short(text), short(fmt.Sprint(got)), ok, wantOk)
	}
	if ok && impl.WriteResponse(got) != text {
		t.Errorf("%s: what is read is not right: %s", what, short(fmt.Sprint(got)))
	}
}

func TestRequestsByHand(t *testing.T) {
	for _, r := range []struct {
		what string
		q    impl.Request
		text string
	}{
		{"the least", impl.Request{Method: "A", Path: "/"}, "A / HTTP/1.1\r\ncontent-length: 0\r\n\r\n"},
		{"with all", aRequest(), "PUT /v2/a/b?n=1&digest= HTTP/1.1\r\nhost: x y\r\nx-offset: \r\ncontent-length: 2\r\n\r\nhi"},
		{"with Query", impl.Request{Method: "GET", Path: "/", Query: []impl.Header{{Name: "a", Value: "b"}}}, "GET /?a=b HTTP/1.1\r\ncontent-length: 0\r\n\r\n"},
		{"with Headers", impl.Request{Method: "GET", Path: "/a", Headers: []impl.Header{{Name: "host", Value: "a"}}}, "GET /a HTTP/1.1\r\nhost: a\r\ncontent-length: 0\r\n\r\n"},
		{"with a Body", impl.Request{Method: "POST", Path: "/a", Body: "0123456789"}, "POST /a HTTP/1.1\r\ncontent-length: 10\r\n\r\n0123456789"},
		{"names that stand twice", impl.Request{Method: "GET", Path: "/", Query: []impl.Header{{Name: "a", Value: "1"}, {Name: "a", Value: "2"}, {Name: "a", Value: "1"}}, Headers: []impl.Header{{Name: "b", Value: "2"}, {Name: "b", Value: "1"}}}, "GET /?a=1&a=2&a=1 HTTP/1.1\r\nb: 2\r\nb: 1\r\ncontent-length: 0\r\n\r\n"},
		{"a Body of lines", impl.Request{Method: "GET", Path: "/", Body: "\r\n\r\n"}, "GET / HTTP/1.1\r\ncontent-length: 4\r\n\r\n\r\n\r\n"},
		{"a Body like a header", impl.Request{Method: "GET", Path: "/", Body: "content-length: 1\r\n\r\n"}, "GET / HTTP/1.1\r\ncontent-length: 21\r\n\r\ncontent-length: 1\r\n\r\n"},
		{"a Body of other bytes", impl.Request{Method: "GET", Path: "/", Body: "\x00\xff\x80"}, "GET / HTTP/1.1\r\ncontent-length: 3\r\n\r\n\x00\xff\x80"},
		{"a ? in Query", impl.Request{Method: "GET", Path: "/", Query: []impl.Header{{Name: "?", Value: "??"}}}, "GET /??=?? HTTP/1.1\r\ncontent-length: 0\r\n\r\n"},
		{"= and & in Path", impl.Request{Method: "GET", Path: "/a=b&c=d"}, "GET /a=b&c=d HTTP/1.1\r\ncontent-length: 0\r\n\r\n"},
		{"colons in a value", impl.Request{Method: "GET", Path: "/:", Headers: []impl.Header{{Name: "a", Value: ":b: c:"}}}, "GET /: HTTP/1.1\r\na: :b: c:\r\ncontent-length: 0\r\n\r\n"},
	} {
		if got := impl.WriteRequest(r.q); got != r.text {
			t.Errorf("%s: %q", r.what, got)
		}
		checkRequest(t, r.what, r.q, true)
	}
}

// Each condition, met exactly and passed by one; code is what the bytes of such a Request, right or not, are read with.
func TestRequestsAtEachCondition(t *testing.T) {
	text := func(n int) string { return strings.Repeat("a", n) }
	rows := func(n int) []impl.Header { return slices.Repeat([]impl.Header{{Name: "a", Value: "b"}}, n) }
	method := func(s string) func(*impl.Request) { return func(q *impl.Request) { q.Method = s } }
	path := func(s string) func(*impl.Request) { return func(q *impl.Request) { q.Path = s } }
	queryName := func(s string) func(*impl.Request) { return func(q *impl.Request) { q.Query[1].Name = s } }
	queryValue := func(s string) func(*impl.Request) { return func(q *impl.Request) { q.Query[0].Value = s } }
	for _, r := range []struct {
		what   string
		change func(*impl.Request)
		right  bool
		code   int64
	}{
		{"Method of no byte", method(""), false, impl.RqLine},
		{"Method of 1", method("Z"), true, 0},
		{"Method of 10", method("ABCDEFGHIJ"), true, 0},
		{"Method of 11", method("ABCDEFGHIJK"), false, impl.RqLine},
		{"Method with a blank", method("P UT"), false, impl.RqLine},
		{"Method with a blank ahead", method(" PUT"), false, impl.RqLine},
		{"no Path", path(""), false, impl.RqLine},
		{"Path without /", path("v2/a"), false, impl.RqLine},
		{"Path that ends with /", path("a/"), false, impl.RqLine},
		{"Path of 1", path("/"), true, 0},
		{"Path of 400", path("/" + text(399)), true, 0},
		{"Path of 401", path("/" + text(400)), false, impl.RqLine},
		{"Path of 400 without /", path(text(400)), false, impl.RqLine},
		{"Path of slashes", path("///"), true, 0},
		{"Path with #", path("/a#b"), false, impl.RqLine},
		{"Path with ? (which begins another Query)", path("/a?b"), false, 0},
		{"Path with ? and Query", path("/a?b=c"), false, impl.RqLine},
		{"Path of another", path("*"), false, impl.RqLine},
		{"a name in Query of no byte", queryName(""), false, impl.RqLine},
		{"a name in Query of 1", queryName("d"), true, 0},
		{"a name in Query of 60", queryName(text(60)), true, 0},
		{"a name in Query of 61", queryName(text(61)), false, impl.RqLine},
		{"a name in Query with &", queryName("a&b"), false, impl.RqLine},
		{"a name in Query with & (which parts it in two)", queryName("a=1&b"), false, 0},
		{"a name in Query with =", queryName("a=b"), false, impl.RqLine},
		{"a name in Query with #", queryName("a#b"), false, impl.RqLine},
		{"a value in Query of no byte", queryValue(""), true, 0},
		{"a value in Query of 200", queryValue(text(200)), true, 0},
		{"a value in Query of 201", queryValue(text(201)), false, impl.RqLine},
		{"a value in Query with &", queryValue("1&2"), false, impl.RqLine},
		{"a value in Query with =", queryValue("1=2"), false, impl.RqLine},
		{"a value in Query with #", queryValue("1#2"), false, impl.RqLine},
		{"no Query", func(q *impl.Request) { q.Query = nil }, true, 0},
		{"20 of Query", func(q *impl.Request) { q.Query = rows(20) }, true, 0},
		{"21 of Query", func(q *impl.Request) { q.Query = rows(21) }, false, impl.RqLine},
		{"40 of Query", func(q *impl.Request) { q.Query = rows(40) }, false, impl.RqLine},
		{"20 of Query, the last one wrong", func(q *impl.Request) { q.Query = rows(20); q.Query[19].Value = "#" }, false, impl.RqLine},
		{"20 of both", func(q *impl.Request) { q.Query, q.Headers = rows(20), rows(20) }, true, 0},
	} {
		q := aRequest()
		r.change(&q)
		checkRequest(t, r.what, q, r.right)
		if _, code := checkReadRequest(t, r.what, rawRequest(q)); code != r.code {
			t.Errorf("%s: read with %d", r.what, code)
		}
	}
}

// A tailRow is Headers and a Body, right or not, and the code with which a Request of their bytes is read.
type tailRow struct {
	what    string
	headers []impl.Header
	body    string
	right   bool
	code    int64
}

func tails() []tailRow {
	text := func(n int) string { return strings.Repeat("a", n) }
	rows := func(n int) []impl.Header { return slices.Repeat([]impl.Header{{Name: "a", Value: "b"}}, n) }
	name := func(s string) []impl.Header { return []impl.Header{{Name: "host"}, {Name: s, Value: "b"}} }
	value := func(s string) []impl.Header { return []impl.Header{{Name: "a", Value: s}, {Name: "b", Value: "c"}} }
	return []tailRow{
		{"none", nil, "", true, 0},
		{"20 of Headers", rows(20), "x", true, 0},
		{"21 of Headers", rows(21), "x", false, impl.RqHeaders},
		{"20 of Headers, the last one wrong", append(rows(19), impl.Header{Name: "0"}), "x", false, impl.RqHeaders},
		{"a name in Headers of no byte", name(""), "x", false, impl.RqHeaders},
		{"a name in Headers of 1", name("a"), "x", true, 0},
		{"a name in Headers of 60", name(text(60)), "x", true, 0},
		{"a name in Headers of 61", name(text(61)), "x", false, impl.RqHeaders},
		{"a name in Headers of 61, all great", name(strings.Repeat("A", 61)), "x", false, impl.RqHeaders},
		{"a name in Headers with a great letter (which stands for a small one)", name("aBc"), "x", false, 0},
		{"a name in Headers of great letters", name("AZ"), "x", false, 0},
		{"a name in Headers with a digit", name("a1"), "x", false, impl.RqHeaders},
		{"a name in Headers with a -", name("a-b"), "x", true, 0},
		{"a name in Headers of a -", name("-"), "x", true, 0},
		{"a name in Headers with a _", name("a_b"), "x", false, impl.RqHeaders},
		{"a name in Headers with a blank behind", name("a "), "x", false, impl.RqHeaders},
		{"a name in Headers with a blank ahead", name(" a"), "x", false, impl.RqHeaders},
		{"a name in Headers with a colon (which ends it)", name("a:b"), "x", false, 0},
		{"content-length", name("content-length"), "x", false, impl.RqHeaders},
		{"Content-Length", name("Content-Length"), "x", false, impl.RqHeaders},
		{"content-length with the right number", []impl.Header{{Name: "content-length", Value: "1"}}, "x", false, impl.RqHeaders},
		{"content-lengt", name("content-lengt"), "x", true, 0},
		{"content-lengths", name("content-lengths"), "x", true, 0},
		{"content--length", name("content--length"), "x", true, 0},
		{"a Kelvin sign, whose small letter is a k", name("\u212aelvin"), "x", false, impl.RqHeaders},
		{"a name in Headers of two bytes that are a letter", name("\u00c4"), "x", false, impl.RqHeaders},
		{"a value in Headers of no byte", value(""), "x", true, 0},
		{"a value in Headers of 500", value(text(500)), "x", true, 0},
		{"a value in Headers of 501", value(text(501)), "x", false, impl.RqHeaders},
		{"a value in Headers of 500 with blanks between", value("a" + strings.Repeat(" ", 498) + "b"), "x", true, 0},
		{"a value in Headers of 501 with blanks between", value("a" + strings.Repeat(" ", 499) + "b"), "x", false, impl.RqHeaders},
		{"a value in Headers with a blank ahead", value(" a"), "x", false, 0},
		{"a value in Headers with a blank behind", value("a "), "x", false, 0},
		{"a value in Headers of a blank", value(" "), "x", false, 0},
		{"a value in Headers of 500 and blanks at both ends", value("  " + text(500) + "  "), "x", false, 0},
		{"a value in Headers of 501 and blanks at both ends", value("  " + text(501) + "  "), "x", false, impl.RqHeaders},
		{"a value in Headers with a blank between", value("a b"), "x", true, 0},
		{"a value in Headers with a tab ahead", value("\ta"), "x", false, impl.RqHeaders},
		{"a value in Headers with CR", value("a\rb"), "x", false, impl.RqHeaders},
		{"a value in Headers with LF", value("a\nb"), "x", false, impl.RqHeaders},
		{"a value in Headers with CR LF", value("a\r\nb"), "x", false, impl.RqHeaders},
		{"a value in Headers with CR LF and a header", value("a\r\nb: c"), "x", false, 0},
		{"no Body", value("b"), "", true, 0},
		{"Body of MaxBody", value("b"), text(20000), true, 0},
		{"Body of one more", value("b"), text(20001), false, impl.RqHeaders},
		{"Body of MaxBody, 20 of Headers with 60 and 500", slices.Repeat([]impl.Header{{Name: text(60), Value: text(500)}}, 20), text(20000), true, 0},
	}
}

func TestRequestsAndResponsesAtEachConditionOfTheirTails(t *testing.T) {
	for _, r := range tails() {
		q := aRequest()
		q.Headers, q.Body = r.headers, r.body
		checkRequest(t, r.what, q, r.right)
		if _, code := checkReadRequest(t, r.what, rawRequest(q)); code != r.code {
			t.Errorf("%s: read with %d", r.what, code)
		}
		p := impl.Response{Status: 201, Headers: r.headers, Body: r.body}
		if r.what == "a value in Headers with CR LF and a header" || r.what == "a name in Headers with a colon (which ends it)" {
			// Its bytes may be those of another Response, which is right.
			if text := impl.WriteResponse(p); text != "" {
				t.Errorf("%s: written as %s", r.what, short(text))
			}
			_, ok := slowReadResponse(rawResponse(p))
			checkReadResponse(t, r.what, rawResponse(p), ok)
			continue
		}
		checkResponse(t, r.what, p, r.right)
	}
	most := impl.Request{Method: "ABCDEFGHIJ", Path: "/" + strings.Repeat("a", 399), Query: slices.Repeat([]impl.Header{{Name: strings.Repeat("n", 60), Value: strings.Repeat("v", 200)}}, 20),
		Headers: slices.Repeat([]impl.Header{{Name: strings.Repeat("n", 60), Value: strings.Repeat("v", 500)}}, 20), Body: strings.Repeat("b", 20000)}
	checkRequest(t, "the greatest", most, true)
}

// Each of the 256 bytes at each kind of place.
func TestRequestsOfEachByte(t *testing.T) {
	between := func(c, least, most byte, but string) bool {
		return c >= least && c <= most && !strings.Contains(but, string(rune(c)))
	}
	for i := range 256 {
		c := byte(i)
		s := string([]byte{c})
		for _, r := range []struct {
			what   string
			change func(*impl.Request)
			right  bool
		}{
			{"Method", func(q *impl.Request) { q.Method = s }, between(c, 'A', 'Z', "")},
			{"Method's end", func(q *impl.Request) { q.Method = "GE" + s }, between(c, 'A', 'Z', "")},
			{"Path", func(q *impl.Request) { q.Path = "/a" + s + "b" }, between(c, 33, 126, "?#")},
			{"Path's end", func(q *impl.Request) { q.Path = "/" + s }, between(c, 33, 126, "?#")},
			{"Path's beginning", func(q *impl.Request) { q.Path = s + "/" }, c == '/'},
			{"name in Query", func(q *impl.Request) { q.Query[0].Name = s }, between(c, 33, 126, "&=#")},
			{"last name in Query", func(q *impl.Request) { q.Query[1].Name = "a" + s + "a" }, between(c, 33, 126, "&=#")},
			{"value in Query", func(q *impl.Request) { q.Query[0].Value = s }, between(c, 33, 126, "&=#")},
			{"last value in Query", func(q *impl.Request) { q.Query[1].Value = "a" + s + "a" }, between(c, 33, 126, "&=#")},
			{"name in Headers", func(q *impl.Request) { q.Headers[0].Name = s }, between(c, 'a', 'z', "") || c == '-'},
			{"last name in Headers", func(q *impl.Request) { q.Headers[1].Name = "x" + s + "x" }, between(c, 'a', 'z', "") || c == '-'},
			{"value in Headers", func(q *impl.Request) { q.Headers[0].Value = "a" + s + "b" }, between(c, 32, 126, "")},
			{"a value's beginning", func(q *impl.Request) { q.Headers[0].Value = s + "b" }, between(c, 33, 126, "")},
			{"a value's end", func(q *impl.Request) { q.Headers[1].Value = "a" + s }, between(c, 33, 126, "")},
			{"a value alone", func(q *impl.Request) { q.Headers[1].Value = s }, between(c, 33, 126, "")},
			{"Body", func(q *impl.Request) { q.Body = s }, true},
		} {
			q := aRequest()
			r.change(&q)
			what := fmt.Sprint(r.what, " with ", i)
			checkRequest(t, what, q, r.right)
			checkReadRequest(t, what, rawRequest(q))
		}
	}
}

// Of a header's name each kind of byte that is none, as it is read.
func TestRequestsReadNamesOfEachByte(t *testing.T) {
	for i := range 256 {
		c := byte(i)
		letter := c >= 'a' && c <= 'z' || c >= 'A' && c <= 'Z' || c == '-'
		for _, name := range []string{"%", "%a", "a%", "a%b"} {
			line := strings.ReplaceAll(name, "%", string([]byte{c}))
			got, code := checkReadRequest(t, fmt.Sprint("a name with ", i), "GET / HTTP/1.1\r\n"+line+": x\r\n\r\n")
			if c == ':' {
				continue // it ends the name
			}
			if letter != (code == 0) || code != 0 && code != impl.RqHeaders {
				t.Errorf("%q: %d", line, code)
			}
			if letter && !slices.Equal(got.Headers, []impl.Header{{Name: strings.ToLower(line), Value: "x"}}) {
				t.Errorf("%q: %+v", line, got.Headers)
			}
		}
	}
}

// A readRow is a text and what it is read as: a code, or Headers and a Body.
type readRow struct {
	what    string
	text    string
	code    int64
	headers []impl.Header
	body    string
}

func checkReadRows(t *testing.T, rows []readRow) {
	t.Helper()
	for _, r := range rows {
		got, code := checkReadRequest(t, r.what, r.text)
		if code != r.code || !slices.Equal(got.Headers, r.headers) || got.Body != r.body {
			t.Errorf("%s: %s is read as %+v, %d", r.what, short(r.text), got, code)
		}
	}
}

func TestRequestsReadMoreThanIsWritten(t *testing.T) {
	const first = "GET / HTTP/1.1\r\n"
	one := []impl.Header{{Name: "host", Value: "a b"}}
	two := []impl.Header{{Name: "host", Value: "a b"}, {Name: "x-y", Value: ""}}
	checkReadRows(t, []readRow{
		{"great letters", first + "HOST: a b\r\nContent-Length: 2\r\n\r\nhi", 0, one, "hi"},
		{"some great letters", first + "hOsT: a b\r\nCONTENT-LENGTH: 2\r\n\r\nhi", 0, one, "hi"},
		{"A, M and Z", first + "AMZ: A\r\nX-Y: Z\r\n\r\n", 0, []impl.Header{{Name: "amz", Value: "A"}, {Name: "x-y", Value: "Z"}}, ""},
		{"no blank behind the colon", first + "host:a b\r\ncontent-length:2\r\n\r\nhi", 0, one, "hi"},
		{"blanks at both ends", first + "host:    a b   \r\ncontent-length:  2  \r\n\r\nhi", 0, one, "hi"},
		{"blanks at the end", first + "host:a b \r\ncontent-length:2 \r\n\r\nhi", 0, one, "hi"},
		{"a value of blanks", first + "host: a b\r\nx-y:    \r\n\r\n", 0, two, ""},
		{"a value of one blank", first + "host: a b\r\nx-y: \r\n\r\n", 0, two, ""},
		{"a value of nothing", first + "host: a b\r\nx-y:\r\n\r\n", 0, two, ""},
		{"content-length first", first + "content-length: 2\r\nhost: a b\r\nx-y: \r\n\r\nhi", 0, two, "hi"},
		{"content-length between", first + "host: a b\r\ncontent-length: 2\r\nx-y: \r\n\r\nhi", 0, two, "hi"},
		{"content-length last", first + "host: a b\r\nx-y: \r\ncontent-length: 2\r\n\r\nhi", 0, two, "hi"},
		{"content-length alone", first + "content-length: 2\r\n\r\nhi", 0, nil, "hi"},
		{"no content-length", first + "host: a b\r\n\r\n", 0, one, ""},
		{"no header", first + "\r\n", 0, nil, ""},
		{"no content-length, and bytes behind", first + "host: a b\r\n\r\nx", impl.RqBody, nil, ""},
		{"no header, and bytes behind", first + "\r\nx", impl.RqBody, nil, ""},
		{"no header, and a line's end behind", first + "\r\n\r\n", impl.RqBody, nil, ""},
		{"a length of 0", first + "content-length: 0\r\n\r\n", 0, nil, ""},
		{"a length of 0, and bytes behind", first + "content-length: 0\r\n\r\nx", impl.RqBody, nil, ""},
		{"headers that stand twice", first + "a: 1\r\nA: 2\r\na: 1\r\n\r\n", 0, []impl.Header{{Name: "a", Value: "1"}, {Name: "a", Value: "2"}, {Name: "a", Value: "1"}}, ""},
		{"a line's end as Body", first + "content-length: 2\r\n\r\n\r\n", 0, nil, "\r\n"},
		{"a Body with two", first + "content-length: 6\r\n\r\na\r\n\r\nb", 0, nil, "a\r\n\r\nb"},
		{"a Body that begins with two", first + "content-length: 6\r\n\r\n\r\n\r\nab", 0, nil, "\r\n\r\nab"},
		{"a Body with two, and a length up to there", first + "content-length: 1\r\n\r\na\r\n\r\nb", impl.RqBody, nil, ""},
	})
}

func TestRequestsReadLengths(t *testing.T) {
	const first = "GET / HTTP/1.1\r\n"
	checkReadRows(t, []readRow{
		{"twice", first + "content-length: 2\r\ncontent-length: 2\r\n\r\nhi", impl.RqHeaders, nil, ""},
		{"twice, with others between", first + "content-length: 2\r\na: b\r\ncontent-length: 2\r\n\r\nhi", impl.RqHeaders, nil, ""},
		{"twice, with unlike numbers", first + "content-length: 2\r\ncontent-length: 3\r\n\r\nhi", impl.RqHeaders, nil, ""},
		{"twice 0", first + "content-length: 0\r\ncontent-length: 0\r\n\r\n", impl.RqHeaders, nil, ""},
		{"twice, once with great letters", first + "content-length: 2\r\nContent-Length: 2\r\n\r\nhi", impl.RqHeaders, nil, ""},
		{"twice, the first no number", first + "content-length: x\r\ncontent-length: 2\r\n\r\nhi", impl.RqHeaders, nil, ""},
		{"three times", first + "content-length: 2\r\ncontent-length: 2\r\ncontent-length: 2\r\n\r\nhi", impl.RqHeaders, nil, ""},
		{"without a colon", first + "content-length\r\n\r\n", impl.RqHeaders, nil, ""},
		{"with a blank ahead of the colon", first + "content-length : 0\r\n\r\n", impl.RqHeaders, nil, ""},
	})
	for value, body := range map[string]int{
		"0": 0, "1": 1, "9": 9, "10": 10, "19999": 19999, "20000": 20000, "20001": -1, "20010": -1, "99999": -1, "100000": -1,
		"00": -1, "01": -1, "02": -1, "020000": -1, "000000000000002": -1, "0000000000000002": -1, "": -1, "x": -1, "2x": -1, "x2": -1, "1 2": -1,
		"+2": -1, "-2": -1, "-0": -1, "+0": -1, "2.0": -1, "2,0": -1, "0x2": -1, "1_0": -1, "1e1": -1, "\t2": -1, "2\t": -1, "\u0662": -1, "2\x00": -1,
		"999999999999999": -1, "9999999999999999": -1, "100000000000000": -1, "1000000000000000": -1, "9223372036854775808": -1, "18446744073709551618": -1, "4294967298": -1,
		strings.Repeat("9", 400): -1, strings.Repeat("0", 400): -1,
	} {
		for _, n := range []int{0, 2, max(body, 0)} {
			want := int64(0)
			if body < 0 {
				want = impl.RqHeaders
			} else if n != body {
				want = impl.RqBody
			}
			for _, line := range []string{"content-length: " + value, "content-length:" + value + "  ", "CONTENT-LENGTH:  " + value + " "} {
				text := first + "a: b\r\n" + line + "\r\n\r\n" + strings.Repeat("x", n)
				if _, code := checkReadRequest(t, "a length of "+value, text); code != want {
					t.Errorf("%.30q with %d bytes: %d", value, n, code)
				}
			}
		}
	}
	for n, want := range map[int]int64{0: impl.RqBody, 9: impl.RqBody, 10: 0, 11: impl.RqBody, 20: impl.RqBody, 20000: impl.RqBody, 20001: impl.RqBody} {
		if _, code := checkReadRequest(t, "10", first+"content-length: 10\r\n\r\n"+strings.Repeat("x", n)); code != want {
			t.Errorf("%d bytes of 10: %d", n, code)
		}
	}
}

func TestRequestsReadHowManyHeaders(t *testing.T) {
	const first = "GET / HTTP/1.1\r\n"
	for n, want := range map[int]int64{0: 0, 1: 0, 19: 0, 20: 0, 21: impl.RqHeaders, 22: impl.RqHeaders, 60: impl.RqHeaders} {
		lines := slices.Repeat([]string{"A:b\r\n"}, n)
		for at := -1; at <= n; at++ {
			list := slices.Clone(lines)
			body := ""
			if at >= 0 { // a length, which is none of the others
				list, body = slices.Insert(list, at, "content-length:3\r\n"), "xyz"
			}
			got, code := checkReadRequest(t, fmt.Sprint(n, " headers"), first+strings.Join(list, "")+crlf+body)
			if code != want || code == 0 && (len(got.Headers) != n || got.Body != body) {
				t.Errorf("%d headers, a length at %d: %d", n, at, code)
			}
		}
	}
}

func TestRequestsReadHeaderLines(t *testing.T) {
	const first = "GET / HTTP/1.1\r\n"
	for _, line := range []string{
		"x", "host", "host x", " ", ":", ": x", " : x", "host : x", " host: x", "\thost: x", "host\t: x", "ho st: x", "host:\tx", "host: x\t", "host: x\x00", "host: x\x7f", "host: x\x80", "host: \xc3\xa9",
		"host: a\rb", "host: a\nb", "\rhost: a", "host: a\r", "\nhost: a", "host: a\n", "h0st: a", "host_: a", "host.: a", "host/: a", "h@st: a", "h[st: a", "h`st: a", "h{st: a", "GET / HTTP/1.1", "\u017fet: a", "\u212aey: a",
		strings.Repeat("a", 61) + ": x", strings.Repeat("A", 61) + ": x", "a: " + strings.Repeat("x", 501), "a:" + strings.Repeat("x", 501), "a:  " + strings.Repeat("x", 501) + " ",
	} {
		for _, text := range []string{first + line + "\r\n\r\n", first + "a: b\r\n" + line + "\r\n\r\n", first + line + "\r\na: b\r\n\r\n", first + "content-length: 2\r\n" + line + "\r\n\r\nhi", first + line + "\r\ncontent-length: 2\r\n\r\nhi", first + line + "\r\n\r\nhi"} {
			if _, code := checkReadRequest(t, "a line that is none", text); code != impl.RqHeaders {
				t.Errorf("%s: %d", short(text), code)
			}
		}
	}
	for line, h := range map[string]impl.Header{
		"host::": {Name: "host", Value: ":"}, "host: :x": {Name: "host", Value: ":x"}, "a:b:c": {Name: "a", Value: "b:c"}, "-: -": {Name: "-", Value: "-"}, "Z:~!": {Name: "z", Value: "~!"}, "--A--:\"": {Name: "--a--", Value: "\""},
		strings.Repeat("aB", 30) + ":x": {Name: strings.Repeat("ab", 30), Value: "x"}, "a:" + strings.Repeat("x", 500): {Name: "a", Value: strings.Repeat("x", 500)},
		"a:" + strings.Repeat(" ", 600) + "x  y" + strings.Repeat(" ", 600): {Name: "a", Value: "x  y"}, "a:" + strings.Repeat(" ", 3000): {Name: "a"},
	} {
		checkReadRows(t, []readRow{
			{"one", first + line + "\r\n\r\n", 0, []impl.Header{h}, ""},
			{"with a body", first + line + "\r\nContent-length:2\r\n" + line + "\r\n\r\nhi", 0, []impl.Header{h, h}, "hi"},
		})
	}
}

func TestRequestsReadFirstLines(t *testing.T) {
	q := func(path string, query ...impl.Header) impl.Request {
		return impl.Request{Method: "GET", Path: path, Query: query}
	}
	for line, want := range map[string]impl.Request{
		"GET / HTTP/1.1": q("/"), "GET /? HTTP/1.1": {}, "GET /?a HTTP/1.1": {}, "GET /?a= HTTP/1.1": q("/", impl.Header{Name: "a"}), "GET /?=a HTTP/1.1": {}, "GET /?= HTTP/1.1": {},
		"GET /?a=b HTTP/1.1": q("/", impl.Header{Name: "a", Value: "b"}), "GET /?a=b=c HTTP/1.1": {}, "GET /?a== HTTP/1.1": {}, "GET /?& HTTP/1.1": {}, "GET /?&a=b HTTP/1.1": {}, "GET /?a=b& HTTP/1.1": {}, "GET /?a=b&&c=d HTTP/1.1": {},
		"GET /?a=b&c=d HTTP/1.1": q("/", impl.Header{Name: "a", Value: "b"}, impl.Header{Name: "c", Value: "d"}), "GET /?a=&b= HTTP/1.1": q("/", impl.Header{Name: "a"}, impl.Header{Name: "b"}), "GET /?a=b&c HTTP/1.1": {}, "GET /?a&c=d HTTP/1.1": {},
		"GET /a?b?c=d?e HTTP/1.1": q("/a", impl.Header{Name: "b?c", Value: "d?e"}), "GET /??=b HTTP/1.1": q("/", impl.Header{Name: "?", Value: "b"}), "GET /a&b=c HTTP/1.1": q("/a&b=c"), "GET /?a=/b HTTP/1.1": q("/", impl.Header{Name: "a", Value: "/b"}),
		"GET /#a HTTP/1.1": {}, "GET /?a#=b HTTP/1.1": {}, "GET /?a=b# HTTP/1.1": {}, "GET ?a=b HTTP/1.1": {}, "GET a/?a=b HTTP/1.1": {},
		"": {}, " ": {}, "  ": {}, "GET": {}, "GET /": {}, "GET / ": {}, "GET /  HTTP/1.1": {}, "GET  / HTTP/1.1": {}, " GET / HTTP/1.1": {}, "GET / HTTP/1.1 ": {}, "GET / HTTP/1.1  ": {}, "GET  HTTP/1.1": {}, "GET HTTP/1.1": {}, " / HTTP/1.1": {}, "/ HTTP/1.1": {}, "GET /HTTP/1.1": {}, "GET/ HTTP/1.1": {}, "GET/HTTP/1.1": {},
		"GET / HTTP/1.0": {}, "GET / HTTP/1.10": {}, "GET / HTTP/1.": {}, "GET / HTTP/2": {}, "GET / http/1.1": {}, "GET / HTTP": {}, "GET / HTTP/11": {}, "GET / HTTPS/1.1": {}, "GET / xHTTP/1.1": {}, "GET / HTTP/1.1x": {}, "GET / HTTP/1.1\r": {}, "GET / HTTP/1.1\n": {}, "\rGET / HTTP/1.1": {}, "\nGET / HTTP/1.1": {}, "GET /\r HTTP/1.1": {}, "GET /\n HTTP/1.1": {},
		"GET\t/ HTTP/1.1": {}, "GET /\tHTTP/1.1": {}, "get / HTTP/1.1": {}, "Get / HTTP/1.1": {}, "G3T / HTTP/1.1": {}, "GET a HTTP/1.1": {}, "GET * HTTP/1.1": {}, "GET http://a/ HTTP/1.1": {}, "GET / a HTTP/1.1": {}, "GET / /a HTTP/1.1": {}, "GET / HTTP/1.1 HTTP/1.1": {},
		"ABCDEFGHIJ / HTTP/1.1": {Method: "ABCDEFGHIJ", Path: "/"}, "ABCDEFGHIJK / HTTP/1.1": {}, "GET /\xc3\xa9 HTTP/1.1": {}, "GET /\x7f HTTP/1.1": {}, "GET /~ HTTP/1.1": q("/~"), "GET /! HTTP/1.1": q("/!"),
		"GET /" + strings.Repeat("a", 399) + " HTTP/1.1": q("/" + strings.Repeat("a", 399)), "GET /" + strings.Repeat("a", 400) + " HTTP/1.1": {}, "GET /" + strings.Repeat("a", 399) + "?a=b HTTP/1.1": q("/"+strings.Repeat("a", 399), impl.Header{Name: "a", Value: "b"}),
	} {
		for _, tail := range []string{"\r\n\r\n", "\r\nhost: a\r\ncontent-length: 2\r\n\r\nhi"} {
			got, code := checkReadRequest(t, "a first line", line+tail)
			if want.Method == "" && code != impl.RqLine || want.Method != "" && (code != 0 || got.Method != want.Method || got.Path != want.Path || !slices.Equal(got.Query, want.Query)) {
				t.Errorf("%s: %+v, %d", short(line), got, code)
			}
		}
		for _, tail := range []string{"", "\r", "\n", "\n\r", "\n\n", "\r\r"} {
			if _, code := checkReadRequest(t, "a first line", line+tail); code != impl.RqLine && !strings.Contains(line+tail, crlf) {
				t.Errorf("%s: %d", short(line+tail), code)
			}
		}
		for _, tail := range []string{"\r\n", "\r\nhost: a", "\r\nhost: a\r\n", "\r\nhost: a\r\n\r", "\r\nhost: a\r\n\n", "\r\n\r", "\r\n\n\r\n", "\r\n\n\n", "\r\n\rx", "\r\nx\r\n\r\n"} {
			code := int64(impl.RqLine)
			if want.Method != "" {
				code = impl.RqHeaders
			}
			if _, got := checkReadRequest(t, "a first line", line+tail); got != code {
				t.Errorf("%s: %d", short(line+tail), got)
			}
		}
	}
	rows := func(n int) string { return strings.TrimSuffix(strings.Repeat("a=b&", n), "&") }
	for n, want := range map[int]int64{1: 0, 19: 0, 20: 0, 21: impl.RqLine, 40: impl.RqLine} {
		if got, code := checkReadRequest(t, "rows", "GET /?"+rows(n)+" HTTP/1.1\r\n\r\n"); code != want || code == 0 && len(got.Query) != n {
			t.Errorf("%d of Query: %d", n, code)
		}
	}
}

// What is wrong in two ways has the code that is told first.
func TestRequestsReadWithTheFirstCode(t *testing.T) {
	line := map[bool]string{true: "GET / HTTP/1.1\r\n", false: "get / HTTP/1.1\r\n"}
	headers := map[bool]string{true: "a: b\r\ncontent-length: 2\r\n\r\n", false: "a b\r\ncontent-length: 2\r\n\r\n"}
	body := map[bool]string{true: "hi", false: "hi!"}
	for _, lineOk := range []bool{true, false} {
		for _, headersOk := range []bool{true, false} {
			for _, bodyOk := range []bool{true, false} {
				want := int64(0)
				switch {
				case !lineOk:
					want = impl.RqLine
				case !headersOk:
					want = impl.RqHeaders
				case !bodyOk:
					want = impl.RqBody
				}
				text := line[lineOk] + headers[headersOk] + body[bodyOk]
				if _, code := checkReadRequest(t, "codes", text); code != want {
					t.Errorf("%q: %d, not %d", text, code, want)
				}
				if _, code := checkReadRequest(t, "codes", text+strings.Repeat("x", 40001-len(text))); code != impl.RqLong {
					t.Errorf("%q and more than MaxRequest: %d", text, code)
				}
			}
		}
	}
	for _, text := range []string{"GET / HTTP/1.1\r\ncontent-length: x\r\n\r\nhi!", "GET / HTTP/1.1\r\ncontent-length: 2\r\ncontent-length: 2\r\n\r\nhi!", "GET / HTTP/1.1\r\ncontent-length: 20001\r\n\r\n", "GET / HTTP/1.1\r\n" + strings.Repeat("a: b\r\n", 21) + "\r\nx"} {
		if _, code := checkReadRequest(t, "codes", text); code != impl.RqHeaders {
			t.Errorf("%s: %d", short(text), code)
		}
	}
}

func TestRequestsOfMaxRequest(t *testing.T) {
	if impl.MaxRequest != 40000 {
		t.Error(impl.MaxRequest)
	}
	body := strings.Repeat("b", 20000)
	ends := func(n int) string { // n bytes in all
		head, tail := "GET / HTTP/1.1\r\na:", "x\r\ncontent-length: 20000\r\n\r\n"+body
		return head + strings.Repeat(" ", n-len(head)-len(tail)) + tail
	}
	for n, want := range map[int]int64{39999: 0, 40000: 0, 40001: impl.RqLong, 40002: impl.RqLong, 80000: impl.RqLong} {
		text := ends(n)
		got, code := checkReadRequest(t, "blanks", text)
		if len(text) != n || code != want || code == 0 && (got.Body != body || got.Headers[0].Value != "x") {
			t.Errorf("%d bytes: %d", n, code)
		}
	}
	for n, want := range map[int]int64{0: impl.RqLine, 1: impl.RqLine, 40000: impl.RqLine, 40001: impl.RqLong, 1000000: impl.RqLong} {
		for _, byteText := range []string{"x", "\r", "\n", " ", "\x00"} {
			if _, code := checkReadRequest(t, "one byte", strings.Repeat(byteText, n)); code != want {
				t.Errorf("%d times %q: %d", n, byteText, code)
			}
		}
	}
	for text, want := range map[string]int64{
		strings.Repeat("\r\n", 20000): impl.RqLine, "GET / HTTP/1.1\r\n" + strings.Repeat("\r\n", 19992): impl.RqBody, "GET / HTTP/1.1\r\n" + strings.Repeat("a", 39984): impl.RqHeaders,
		"GET /" + strings.Repeat(" ", 39995): impl.RqLine, "GET / HTTP/1.1\r\n" + strings.Repeat("a:\r\n", 9996): impl.RqHeaders,
	} {
		if _, code := checkReadRequest(t, "40000", text); len(text) != 40000 || code != want {
			t.Errorf("%s of %d: %d", short(text), len(text), code)
		}
	}
}

// Each CR LF in its turn is CR alone, LF alone, or something else.
func TestRequestsWithOtherLineEnds(t *testing.T) {
	q := aRequest()
	text := impl.WriteRequest(q)
	for at := 0; at < len(text); at++ {
		if !strings.HasPrefix(text[at:], crlf) {
			continue
		}
		for _, end := range []string{"\r", "\n", "\n\r", "\r\r\n", "\r\n\n", "\r \n", "\r\n "} {
			other := text[:at] + end + text[at+2:]
			if _, code := checkReadRequest(t, "line ends", other); code == 0 {
				t.Errorf("%q is read", other)
			}
		}
		for _, end := range []string{"", " ", "\r\n\r\n"} {
			checkReadRequest(t, "line ends", text[:at]+end+text[at+2:])
		}
	}
	for end, want := range map[string]int64{"\n": impl.RqLine, "\r": impl.RqLine, "\n\r": impl.RqLine, "": impl.RqLine} {
		if _, code := checkReadRequest(t, "line ends", strings.ReplaceAll(text, crlf, end)); code != want {
			t.Errorf("%q everywhere: %d", end, code)
		}
	}
}

func TestRequestsCutAndWithMoreBehind(t *testing.T) {
	for _, q := range []impl.Request{aRequest(), {Method: "GET", Path: "/", Body: "\r\n\r\n"}, {Method: "GET", Path: "/", Headers: []impl.Header{{Name: "a"}}}} {
		text := impl.WriteRequest(q)
		for n := range len(text) {
			if got, code := checkReadRequest(t, "cut", text[:n]); code == 0 {
				t.Errorf("%q is read as %+v", text[:n], got)
			}
		}
		for _, more := range []string{"x", "\r\n", "\x00", " ", text} {
			if _, code := checkReadRequest(t, "more", text+more); code != impl.RqBody {
				t.Errorf("%q and %q: %d", text, more, code)
			}
			if _, code := checkReadRequest(t, "more ahead", more+text); code != impl.RqLine && more != text {
				t.Errorf("%q ahead of %q: %d", more, text, code)
			}
		}
	}
}

func TestResponsesByHand(t *testing.T) {
	for status, reason := range reasons {
		text := fmt.Sprintf("HTTP/1.1 %d %s\r\ncontent-length: 0\r\n\r\n", status, reason)
		if got := impl.WriteResponse(impl.Response{Status: status}); got != text {
			t.Errorf("%d: %q", status, got)
		}
		for _, headers := range [][]impl.Header{nil, {{Name: "location", Value: "/v2/ a"}}, {{Name: "b"}, {Name: "a", Value: "1"}, {Name: "a", Value: "2"}}} {
			for _, body := range []string{"", "{}", "\r\n\r\n", "HTTP/1.1 200 OK\r\n\r\n", "\x00\xff", strings.Repeat("x", 20000)} {
				checkResponse(t, fmt.Sprint(status), impl.Response{Status: status, Headers: headers, Body: body}, true)
			}
		}
	}
	if got := impl.WriteResponse(impl.Response{Status: 202, Headers: []impl.Header{{Name: "location", Value: "/v2/a"}, {Name: "x"}}, Body: "hello"}); got != "HTTP/1.1 202 Accepted\r\nlocation: /v2/a\r\nx: \r\ncontent-length: 5\r\n\r\nhello" {
		t.Errorf("%q", got)
	}
}

func TestResponsesOfOtherStatuses(t *testing.T) {
	statuses := append([]int64{math.MinInt64, math.MaxInt64, -200, 2000, 20, 2, 1 << 32, 200 + 1<<32, impl.MaxNumber, impl.MaxNumber + 1}, countUp(0, 1000)...)
	for _, status := range statuses {
		if reasons[status] != "" {
			continue
		}
		if got := impl.WriteResponse(impl.Response{Status: status, Body: "x"}); got != "" {
			t.Errorf("%d: %q", status, got)
		}
		for _, reason := range []string{"OK", "Not Found", "", " "} {
			checkReadResponse(t, "another status", fmt.Sprintf("HTTP/1.1 %d %s\r\ncontent-length: 0\r\n\r\n", status, reason), false)
		}
	}
	for status := range reasons {
		for other, reason := range reasons {
			text := fmt.Sprintf("HTTP/1.1 %d %s\r\ncontent-length: 1\r\n\r\nx", status, reason)
			checkReadResponse(t, "reasons", text, status == other)
		}
	}
}

func TestResponsesOfOtherFirstLines(t *testing.T) {
	for _, line := range []string{
		"", "HTTP/1.1", "HTTP/1.1 200", "HTTP/1.1 200 ", "HTTP/1.1 OK", "HTTP/1.1  OK", "200 OK", " 200 OK", "HTTP/1.1 200  OK", "HTTP/1.1  200 OK", " HTTP/1.1 200 OK", "HTTP/1.1 200 OK ", "HTTP/1.1 200 ok", "HTTP/1.1 200 Ok", "HTTP/1.1 200 O", "HTTP/1.1 200 OKK", "HTTP/1.1 200 OK\r", "HTTP/1.1 200 OK\n",
		"HTTP/1.0 200 OK", "HTTP/2 200 OK", "http/1.1 200 OK", "HTTP/1.1x 200 OK", "x 200 OK", "HTTP/1.1 0200 OK", "HTTP/1.1 +200 OK", "HTTP/1.1 -200 OK", "HTTP/1.1 200. OK", "HTTP/1.1 2e2 OK", "HTTP/1.1 0xc8 OK", "HTTP/1.1 2_00 OK", "HTTP/1.1 00000000000000200 OK", "HTTP/1.1 18446744073709551816 OK", "HTTP/1.1\t200\tOK", "HTTP/1.1 200\tOK", "HTTP/1.1 200OK", "HTTP/1.1 404 NotFound", "HTTP/1.1 404 Not  Found", "HTTP/1.1 404 Not", "HTTP/1.1 404 Not Found ", "HTTP/1.1 404 not found", "HTTP/1.1 413 Payload Too Large", "GET / HTTP/1.1",
	} {
		for _, tail := range []string{"\r\ncontent-length: 0\r\n\r\n", "\r\na: b\r\ncontent-length: 2\r\n\r\nhi", "\r\n\r\n", "\r\n", ""} {
			checkReadResponse(t, "another first line", line+tail, false)
		}
	}
	for _, text := range []string{"", "x", crlf, crlf + crlf, "HTTP/1.1 200 OK", "HTTP/1.1 200 OK\r\n", "HTTP/1.1 200 OK\ncontent-length: 0\n\n", strings.Repeat("x", 1000000), strings.Repeat(crlf, 100000), impl.WriteRequest(aRequest())} {
		checkReadResponse(t, "no response", text, false)
	}
}

// Bytes that would be right if they were read as a Request is.
func TestResponsesAreReadStrictly(t *testing.T) {
	const first = "HTTP/1.1 200 OK\r\n"
	for what, tail := range map[string]string{
		"great letters": "Host: a\r\ncontent-length: 2\r\n\r\nhi", "a great length": "host: a\r\nContent-Length: 2\r\n\r\nhi", "no blank": "host:a\r\ncontent-length: 2\r\n\r\nhi", "two blanks": "host:  a\r\ncontent-length: 2\r\n\r\nhi",
		"a blank behind": "host: a \r\ncontent-length: 2\r\n\r\nhi", "no blank ahead of nothing": "host:\r\ncontent-length: 2\r\n\r\nhi", "two blanks and nothing": "host:  \r\ncontent-length: 2\r\n\r\nhi", "a length without a blank": "host: a\r\ncontent-length:2\r\n\r\nhi", "a length with two": "host: a\r\ncontent-length:  2\r\n\r\nhi", "a length with one behind": "host: a\r\ncontent-length: 2 \r\n\r\nhi",
		"the length first": "content-length: 2\r\nhost: a\r\n\r\nhi", "the length between": "a: b\r\ncontent-length: 2\r\nhost: a\r\n\r\nhi", "no length": "host: a\r\n\r\n", "nothing": "\r\n",
	} {
		if _, code := checkReadRequest(t, what, "GET / HTTP/1.1\r\n"+tail); code != 0 {
			t.Errorf("%s: as a Request %d", what, code)
		}
		checkReadResponse(t, what, first+tail, false)
	}
	for what, tail := range map[string]string{
		"the length twice": "content-length: 2\r\ncontent-length: 2\r\n\r\nhi", "noughts ahead": "content-length: 02\r\n\r\nhi", "no number": "content-length: x\r\n\r\nhi", "no length, and bytes": "host: a\r\n\r\nhi", "one byte less": "content-length: 2\r\n\r\nh", "one byte more": "content-length: 2\r\n\r\nhi!",
		"a length too great": "content-length: 20001\r\n\r\n" + strings.Repeat("x", 20001), "21 headers": strings.Repeat("a: b\r\n", 21) + "content-length: 2\r\n\r\nhi", "no header": "x\r\ncontent-length: 2\r\n\r\nhi", "LF alone": "host: a\ncontent-length: 2\r\n\r\nhi",
	} {
		if _, code := checkReadRequest(t, what, "GET / HTTP/1.1\r\n"+tail); code == 0 {
			t.Errorf("%s: right as a Request", what)
		}
		checkReadResponse(t, what, first+tail, false)
	}
	checkReadResponse(t, "right", first+"host: a\r\nx: \r\ncontent-length: 2\r\n\r\nhi", true)
	checkReadResponse(t, "20 headers", first+strings.Repeat("a: b\r\n", 20)+"content-length: 2\r\n\r\nhi", true)
}

func TestResponsesCutAndWithMoreBehind(t *testing.T) {
	for _, p := range []impl.Response{{Status: 200}, {Status: 404, Headers: []impl.Header{{Name: "a", Value: "b c"}}, Body: "hi\r\n\r\n"}, {Status: 507, Body: "\r\n"}} {
		text := impl.WriteResponse(p)
		for n := range len(text) {
			checkReadResponse(t, "cut", text[:n], false)
			checkReadResponse(t, "cut ahead", text[n+1:], false)
			for _, change := range []byte{1, 4, 32, 128, 255} {
				other := []byte(text)
				other[n] ^= change
				_, right := slowReadResponse(string(other))
				checkReadResponse(t, "changed", string(other), right)
			}
			_, right := slowReadResponse(text[:n] + text[n+1:])
			checkReadResponse(t, "one byte left out", text[:n]+text[n+1:], right)
		}
		for _, more := range []string{"x", crlf, "\x00", " ", text} {
			checkReadResponse(t, "more", text+more, false)
			checkReadResponse(t, "more ahead", more+text, false)
		}
	}
}

func TestRequestsValueOf(t *testing.T) {
	list := []impl.Header{{Name: "a", Value: "1"}, {Name: "b", Value: "2"}, {Name: "a", Value: "3"}, {Name: "c"}, {Name: "", Value: "4"}, {Name: "c", Value: "5"}, {Name: "A", Value: "6"}, {Name: "content-length", Value: "7"}}
	for _, r := range []struct {
		name, value string
		there       bool
	}{
		{"a", "1", true}, {"b", "2", true}, {"c", "", true}, {"", "4", true}, {"A", "6", true}, {"content-length", "7", true},
		{"B", "", false}, {"d", "", false}, {"a ", "", false}, {" a", "", false}, {"ab", "", false}, {"1", "", false}, {"Content-Length", "", false}, {"\x00", "", false},
	} {
		if value, there := impl.ValueOf(list, r.name); value != r.value || there != r.there {
			t.Errorf("%q: %q, %v", r.name, value, there)
		}
		if value, there := impl.ValueOf(nil, r.name); value != "" || there {
			t.Errorf("%q of nothing: %q, %v", r.name, value, there)
		}
		if value, there := impl.ValueOf([]impl.Header{}, r.name); value != "" || there {
			t.Errorf("%q of an empty list: %q, %v", r.name, value, there)
		}
	}
	slices.Reverse(list)
	if value, there := impl.ValueOf(list, "a"); value != "3" || !there {
		t.Errorf("turned round: %q, %v", value, there)
	}
	many := slices.Repeat([]impl.Header{{Name: "a", Value: "b"}}, 5000)
	if value, there := impl.ValueOf(append(many, impl.Header{Name: "z", Value: "y"}), "z"); value != "y" || !there {
		t.Errorf("the last of many: %q, %v", value, there)
	}
}

// randomText is of up to n bytes of these letters.
func randomText(r *rand.Rand, n int, letters string) string {
	var text []byte
	for range r.IntN(n + 1) {
		text = append(text, letters[r.IntN(len(letters))])
	}
	return string(text)
}

func randomTail(r *rand.Rand) ([]impl.Header, string) {
	var headers []impl.Header
	for range r.IntN(pick(r, 1, 3, 6, 21)) {
		value := strings.Trim(randomText(r, 9, " ab:=?&-~!"), " ")
		headers = append(headers, impl.Header{Name: "a" + randomText(r, 6, "abz-"), Value: value})
	}
	return headers, randomText(r, pick(r, 0, 5, 30), "ab\r\n:\x00\xff ")
}

func randomRequest(r *rand.Rand) impl.Request {
	q := impl.Request{Method: pick(r, "GET", "PUT", "A", "ABCDEFGHIJ"), Path: "/" + randomText(r, 8, "ab/=&:%~!")}
	for range r.IntN(pick(r, 1, 3, 21)) {
		q.Query = append(q.Query, impl.Header{Name: "a" + randomText(r, 4, "ab?/~"), Value: randomText(r, 4, "ab?:/!")})
	}
	q.Headers, q.Body = randomTail(r)
	return q
}

// looselyWritten is a request as others write it.
func looselyWritten(r *rand.Rand, q impl.Request) string {
	first, _, _ := strings.Cut(rawRequest(q), crlf)
	lines := []string{}
	for _, h := range q.Headers {
		lines = append(lines, h.Name+":"+h.Value)
	}
	if q.Body != "" || r.IntN(2) == 0 {
		lines = slices.Insert(lines, r.IntN(len(lines)+1), fmt.Sprint("content-length:", len(q.Body)))
	}
	for i, line := range lines {
		name, value, _ := strings.Cut(line, ":")
		letters := []byte(name)
		for k, c := range letters {
			if c != '-' && r.IntN(3) == 0 {
				letters[k] = c - 32
			}
		}
		lines[i] = string(letters) + ":" + strings.Repeat(" ", r.IntN(3)) + value + strings.Repeat(" ", r.IntN(3)) + crlf
	}
	return first + crlf + strings.Join(lines, "") + crlf + q.Body
}

// spoiledText is a text with a few bytes changed, left out or put in.
func spoiledText(r *rand.Rand, text string) string {
	for range 1 + r.IntN(2) {
		at := r.IntN(len(text) + 1)
		piece := pick(r, "", " ", ":", "\r", "\n", crlf, crlf+crlf, "a", "A", "0", "=", "&", "?", "content-length: 1\r\n", "a: b\r\n", "\x00", "\xff")
		text = text[:at] + piece + text[min(at+r.IntN(3), len(text)):]
	}
	return text
}

func TestRequestsAtRandom(t *testing.T) {
	r := rand.New(rand.NewPCG(16, 16))
	seen := map[int64]int{}
	for range 6000 {
		q := randomRequest(r)
		checkRequest(t, "at random", q, true)
		text := looselyWritten(r, q)
		if got, code := checkReadRequest(t, "loosely", text); code != 0 || !sameRequest(got, q) {
			t.Fatalf("%q is read as %+v, %d", text, got, code)
		}
		for range 4 {
			_, code := checkReadRequest(t, "spoiled", spoiledText(r, pick(r, text, rawRequest(q))))
			seen[code]++
		}
	}
	for _, code := range []int64{0, impl.RqLine, impl.RqHeaders, impl.RqBody} {
		if seen[code] < 500 {
			t.Errorf("%d: %d times", code, seen[code])
		}
	}
}

func TestResponsesAtRandom(t *testing.T) {
	r := rand.New(rand.NewPCG(61, 16))
	right := map[bool]int{}
	for range 3000 {
		p := impl.Response{Status: pick[int64](r, 200, 201, 202, 204, 307, 400, 404, 405, 413, 507)}
		p.Headers, p.Body = randomTail(r)
		checkResponse(t, "at random", p, true)
		for range 4 {
			text := spoiledText(r, rawResponse(p))
			_, ok := slowReadResponse(text)
			checkReadResponse(t, "spoiled", text, ok)
			right[ok]++
		}
	}
	if right[true] < 200 || right[false] < 2000 {
		t.Error(right)
	}
}

// A messageAnswer is what a call of chapter 16 answers.
type messageAnswer struct {
	query   []impl.Header
	headers []impl.Header
	rest    string
}

func (a messageAnswer) parts() []part {
	return []part{partOf("the Query", a.query, impl.Header{Name: "changed"}), partOf("the Headers", a.headers, impl.Header{Name: "changed too"})}
}

func (a messageAnswer) clone() messageAnswer {
	return messageAnswer{slices.Clone(a.query), slices.Clone(a.headers), a.rest}
}

func (a messageAnswer) same(b messageAnswer) bool {
	return a.rest == b.rest && slices.Equal(a.query, b.query) && slices.Equal(a.headers, b.headers)
}

func TestRequestsAndResponsesAreTheirOwn(t *testing.T) {
	requests := map[string]impl.Request{"nothing": {}, "a request": aRequest(), "the least": {Method: "GET", Path: "/"}, "a wrong Method": {Method: "get", Path: "/", Query: aRequest().Query, Headers: aRequest().Headers}}
	for _, r := range tails() {
		q := aRequest()
		q.Headers, q.Body = r.headers, r.body
		requests[r.what] = q
	}
	twice := []impl.Header{{Name: "a", Value: "b"}, {Name: "c", Value: "d"}}
	requests["one list for both"] = impl.Request{Method: "GET", Path: "/", Query: twice, Headers: twice}
	for what, given := range requests {
		q := copyRequest(given)
		q.Query, q.Headers = roomy(q.Query, impl.Header{Name: "spare"}), roomy(q.Headers, impl.Header{Name: "spare"})
		p := impl.Response{Status: 200, Headers: q.Headers, Body: q.Body}
		parts := []part{partOf("the argument's Query", q.Query, impl.Header{Name: "spoiled"}), partOf("the argument's Headers", q.Headers, impl.Header{Name: "spoiled"})}
		for name, call := range map[string]func() messageAnswer{
			"RequestOk":     func() messageAnswer { return messageAnswer{rest: fmt.Sprint(impl.RequestOk(q))} },
			"WriteRequest":  func() messageAnswer { return messageAnswer{rest: impl.WriteRequest(q)} },
			"WriteResponse": func() messageAnswer { return messageAnswer{rest: impl.WriteResponse(p)} },
			"ReadRequest": func() messageAnswer {
				got, code := impl.ReadRequest(rawRequest(given))
				return messageAnswer{got.Query, got.Headers, fmt.Sprint(code, got.Method, got.Path, got.Body)}
			},
			"ReadResponse": func() messageAnswer {
				got, ok := impl.ReadResponse(rawResponse(impl.Response{Status: 200, Headers: given.Headers, Body: given.Body}))
				return messageAnswer{headers: got.Headers, rest: fmt.Sprint(ok, got.Status, got.Body)}
			},
			"ValueOf": func() messageAnswer {
				value, there := impl.ValueOf(q.Headers, "a")
				return messageAnswer{rest: fmt.Sprint(value, there)}
			},
		} {
			checkOwn(t, name+" of "+what, parts, call)
		}
	}
}

func TestRequestsOfOddArguments(t *testing.T) {
	long := strings.Repeat("x", 1000000)
	many := slices.Repeat([]impl.Header{{Name: "a", Value: "b"}}, 100000)
	for _, q := range []impl.Request{{Method: long, Path: long, Body: long}, {Method: "GET", Path: "/", Query: many, Headers: many}, {Method: "GET", Path: "/", Headers: []impl.Header{{Name: long, Value: long}}}, {Method: "GET", Path: "/", Body: long}} {
		if impl.RequestOk(q) || impl.WriteRequest(q) != "" || impl.WriteResponse(impl.Response{Status: math.MinInt64, Headers: q.Headers, Body: q.Body}) != "" {
			t.Error("an odd request is right")
		}
	}
	for _, text := range []string{"HTTP/1.1 200 OK\r\n" + strings.Repeat("a: b\r\n", 300000), "HTTP/1.1 200 OK\r\n" + long + crlf + crlf, "HTTP/1.1 " + long + " OK\r\n\r\n", "HTTP/1.1 200 OK\r\ncontent-length: " + strings.Repeat("1", 1000000) + "\r\n\r\n", "HTTP/1.1 200 OK\r\ncontent-length: 1000000\r\n\r\n" + long} {
		if got, ok := impl.ReadResponse(text); ok || !sameResponse(got, impl.Response{}) {
			t.Errorf("%s is read", short(text))
		}
	}
}
