package tests

import (
	"fmt"
	"regexp"
	"slices"
	"strconv"
	"strings"

	"loop.example/g00141/impl"
)

// The slow way of chapter 17: written from the document's words and tables, one behind the other, beside the program.

var routeForms = []struct {
	route   int64
	form    *regexp.Regexp
	methods string
}{
	{1, regexp.MustCompile(`\A/v2/\z`), "GET"},
	{2, regexp.MustCompile(`\A/v2/(.*)/blobs/uploads/\z`), "POST"},
	{3, regexp.MustCompile(`\A/v2/(.*)/blobs/uploads/([^/]+)\z`), "PATCH PUT"},
	{4, regexp.MustCompile(`\A/v2/(.*)/blobs/([^/]+)\z`), "GET HEAD"},
	{5, regexp.MustCompile(`\A/v2/(.*)/manifests/([^/]+)\z`), "GET HEAD PUT DELETE"},
	{6, regexp.MustCompile(`\A/v2/(.*)/tags/list\z`), "GET"},
}

func slowServerOk(v impl.Server) bool {
	return slowSiteOk(v.Site) && v.Leader >= 0 && v.Leader <= 50
}

func slowRoute(q impl.Request) (int64, string, string) {
	if !slowRequestOk(q) {
		return 0, "", ""
	}
	for _, row := range routeForms {
		if parts := row.form.FindStringSubmatch(q.Path); parts != nil {
			parts = append(parts, "", "")
			return row.route, parts[1], parts[2]
		}
	}
	return 0, "", ""
}

func slowDecimal(text string) (int64, bool) {
	n, err := strconv.ParseInt(text, 10, 64)
	if err != nil || !decimalForm.MatchString(text) || n > 1000000000000 {
		return 0, false
	}
	return n, true
}

func slowValue(list []impl.Header, name string) (string, bool) {
	for _, h := range list {
		if h.Name == name {
			return h.Value, true
		}
	}
	return "", false
}

// A slowCall is a server while it answers to one request.
type slowCall struct {
	server impl.Server
	q      impl.Request
	repo   string
	name   string
}

func copyServer(v impl.Server) impl.Server {
	v.Site = copySite(v.Site)
	return v
}

func sameServer(a, b impl.Server) bool {
	return a.Leader == b.Leader && sameSite(a.Site, b.Site)
}

func isZeroServer(v impl.Server) bool {
	return sameServer(v, impl.Server{})
}

func status(code int64, headers ...impl.Header) impl.Response {
	return impl.Response{Status: code, Headers: headers}
}

func withDigest(code int64, digest string) impl.Response {
	return status(code, impl.Header{Name: "docker-content-digest", Value: digest})
}

func slowServe(v impl.Server, text string) (impl.Server, string) {
	if !slowServerOk(v) {
		return impl.Server{}, ""
	}
	c := &slowCall{server: copyServer(v)}
	p := c.answer(text)
	return c.server, rawResponse(p)
}

func (c *slowCall) answer(text string) impl.Response {
	q, code := slowReadRequest(text)
	if code != 0 {
		return status(400)
	}
	route, repo, name := slowRoute(q)
	if route == 0 {
		return status(404)
	}
	if route != 1 && !slowRepoOk(repo) {
		return status(400)
	}
	if !slices.Contains(strings.Split(routeForms[route-1].methods, " "), q.Method) {
		return status(405)
	}
	if q.Method != "GET" && q.Method != "HEAD" && c.server.Leader != c.server.Site.Node {
		return status(307, impl.Header{Name: "location", Value: fmt.Sprint("node", c.server.Leader, q.Path)})
	}
	c.q, c.repo, c.name = q, repo, name
	switch fmt.Sprint(route, " ", q.Method) {
	case "1 GET":
		return impl.Response{Status: 200, Body: "{}"}
	case "2 POST":
		return c.begin()
	case "3 PATCH":
		return c.patch()
	case "3 PUT":
		return c.finish()
	case "4 GET", "4 HEAD":
		return c.blob()
	case "5 GET", "5 HEAD":
		return c.manifest()
	case "5 PUT":
		return c.putManifest()
	case "5 DELETE":
		return c.untag()
	}
	return c.tags()
}

func (c *slowCall) blob() impl.Response {
	if !digestForm.MatchString(c.name) {
		return status(400)
	}
	for _, b := range c.server.Site.Store.Blobs {
		if b.Digest != c.name {
			continue
		}
		p := withDigest(200, c.name)
		if c.q.Method == "GET" {
			p.Body = b.Data
		}
		if len(p.Body) > 20000 {
			return status(413)
		}
		return p
	}
	return status(404)
}

func (c *slowCall) begin() impl.Response {
	s := &c.server.Site.Store
	if len(s.Uploads) == 10 || s.Next == 1000000000000 {
		return status(507)
	}
	s.Uploads = append(s.Uploads, impl.Upload{Id: s.Next})
	s.Next++
	return status(202, impl.Header{Name: "location", Value: fmt.Sprintf("/v2/%s/blobs/uploads/%d", c.repo, s.Next-1)})
}

// upload is nil when there is none.
func (c *slowCall) upload(id int64) *impl.Upload {
	list := c.server.Site.Store.Uploads
	for i := range list {
		if list[i].Id == id {
			return &list[i]
		}
	}
	return nil
}

func (c *slowCall) bytes() int {
	n := 0
	for _, b := range c.server.Site.Store.Blobs {
		n += len(b.Data)
	}
	for _, u := range c.server.Site.Store.Uploads {
		n += len(u.Data)
	}
	return n
}

func (c *slowCall) patch() impl.Response {
	id, ok := slowDecimal(c.name)
	if !ok {
		return status(404)
	}
	offset := int64(0)
	if text, told := slowValue(c.q.Headers, "x-offset"); told {
		if offset, ok = slowDecimal(text); !ok {
			return status(400)
		}
	}
	u := c.upload(id)
	switch {
	case u == nil:
		return status(404)
	case offset != int64(len(u.Data)):
		return status(400)
	case int64(c.bytes()+len(c.q.Body)) > c.server.Site.Store.Quota:
		return status(413)
	}
	u.Data += c.q.Body
	return status(202)
}

func (c *slowCall) finish() impl.Response {
	before := copyServer(c.server)
	p := c.finishOrNot()
	if p.Status != 201 {
		c.server = before
	}
	return p
}

// finishOrNot leaves the server half done where it ends.
func (c *slowCall) finishOrNot() impl.Response {
	id, ok := slowDecimal(c.name)
	if !ok {
		return status(404)
	}
	u := c.upload(id)
	if c.q.Body != "" {
		if u == nil {
			return status(404)
		}
		if int64(c.bytes()+len(c.q.Body)) > c.server.Site.Store.Quota {
			return status(413)
		}
		u.Data += c.q.Body
	}
	digest, told := slowValue(c.q.Query, "digest")
	if !told {
		return status(400)
	}
	if u == nil {
		return status(404)
	}
	if digestOf(u.Data) != digest {
		return status(400)
	}
	s := &c.server.Site.Store
	if !stores(c.server.Site, digest) {
		if len(s.Blobs) == 60 {
			return status(507)
		}
		var datas []string
		for _, b := range s.Blobs {
			datas = append(datas, b.Data)
		}
		s.Blobs = blobsOf(append(datas, u.Data)...)
	}
	s.Uploads = slices.DeleteFunc(s.Uploads, func(u impl.Upload) bool { return u.Id == id })
	state, code := slowApply(c.server.Site.State, impl.Cmd{Op: 1, Digest: digest})
	if code != 0 {
		return status(507)
	}
	c.server.Site.State = state
	return withDigest(201, digest)
}

func (c *slowCall) manifest() impl.Response {
	state := c.server.Site.State
	for _, h := range state.Manifests {
		tagged := slices.Contains(state.Tags, impl.TagRow{Repo: c.repo, Tag: c.name, Digest: h.Digest})
		if h.Digest == c.name || tagged {
			p := withDigest(200, h.Digest)
			if c.q.Method == "GET" {
				p.Body = h.Text
			}
			return p
		}
	}
	return status(404)
}

// session is false when x-session is there, but not as told.
func (c *slowCall) session() (id, serial int64, ok bool) {
	text, told := slowValue(c.q.Headers, "x-session")
	if !told {
		return 0, 0, true
	}
	words := strings.Split(text, " ")
	if len(words) != 2 {
		return 0, 0, false
	}
	id, idOk := slowDecimal(words[0])
	serial, serialOk := slowDecimal(words[1])
	return id, serial, idOk && serialOk
}

func (c *slowCall) putManifest() impl.Response {
	digest := digestOf(c.q.Body)
	isTag := tagForm.MatchString(c.name)
	id, serial, ok := c.session()
	if !slowManifestOk(c.q.Body) || !ok || !isTag && c.name != digest {
		return status(400)
	}
	cmds := []impl.Cmd{{Op: 2, Text: c.q.Body}}
	if isTag {
		cmds = append(cmds, impl.Cmd{Op: 3, Repo: c.repo, Tag: c.name, Digest: digest})
	}
	cmds[len(cmds)-1].Session, cmds[len(cmds)-1].Serial = id, serial
	before := c.server.Site.State
	for i, cmd := range cmds {
		state, code := slowApply(c.server.Site.State, cmd)
		c.server.Site.State = state
		if code == 0 {
			continue
		}
		if i < len(cmds)-1 {
			c.server.Site.State = before
		}
		if code == 3 {
			return status(400)
		}
		return status(507)
	}
	return withDigest(201, digest)
}

func (c *slowCall) untag() impl.Response {
	id, serial, ok := c.session()
	if !tagForm.MatchString(c.name) || !ok {
		return status(400)
	}
	state, code := slowApply(c.server.Site.State, impl.Cmd{Session: id, Serial: serial, Op: 4, Repo: c.repo, Tag: c.name})
	c.server.Site.State = state
	switch code {
	case 0:
		return status(202)
	case 3:
		return status(404)
	}
	return status(507)
}

func (c *slowCall) tags() impl.Response {
	p := status(200)
	for _, row := range c.server.Site.State.Tags {
		if row.Repo == c.repo {
			p.Body += row.Tag + "\n"
		}
	}
	return p
}
