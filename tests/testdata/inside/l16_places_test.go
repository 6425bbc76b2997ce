package impl

import (
	"errors"
	"strings"
	"testing"
)

// At which byte a reader failed is told by its error alone, which no exported function hands out.
func TestRequestsPlaces(t *testing.T) {
	for _, r := range []struct {
		what string
		text string
		want string
	}{
		{"too long", strings.Repeat("x", 40001), "code 1 at byte 40000"},
		{"nothing", "", "code 2 at byte 0"},
		{"a first line that is none", "get / HTTP/1.1\r\n\r\n", "code 2 at byte 0"},
		{"no header behind the first line", "GET / HTTP/1.1\r\n", "code 3 at byte 16"},
		{"the first header", "GET / HTTP/1.1\r\nx\r\n\r\n", "code 3 at byte 16"},
		{"the second header", "GET / HTTP/1.1\r\na: b\r\nx\r\n\r\n", "code 3 at byte 22"},
		{"the second length", "GET / HTTP/1.1\r\ncontent-length: 0\r\na:b\r\ncontent-length: 0\r\n\r\n", "code 3 at byte 40"},
		{"no empty line", "GET / HTTP/1.1\r\na: b\r\n", "code 3 at byte 22"},
		{"the body", "GET / HTTP/1.1\r\na: b\r\n\r\nx", "code 4 at byte 24"},
	} {
		reader := messageReader{cursor{text: r.text}}
		_, err := reader.request()
		var fault misread
		if !errors.As(err, &fault) || err.Error() != r.want {
			t.Errorf("%s: %v", r.what, err)
		}
		if _, code := ReadRequest(r.text); code != fault.code {
			t.Errorf("%s: ReadRequest tells %d", r.what, code)
		}
	}
	reader := messageReader{cursor{text: "GET / HTTP/1.1\r\n\r\n"}}
	if _, err := reader.request(); err != nil {
		t.Error(err)
	}
}
