package tests

import (
	"cmp"
	"regexp"
	"slices"
	"strings"

	"loop.example/g00141/impl"
)

// The slow way of chapter 12: written from the document's words, one behind the other, beside the program.

var manifestForm = regexp.MustCompile(`\Aconfig sha256:[0-9a-f]{64}\n(layer sha256:[0-9a-f]{64}\n)+\z`)

var tagForm = regexp.MustCompile(`\A[a-zA-Z0-9_][a-zA-Z0-9_.-]{0,127}\z`)

var digestForm = regexp.MustCompile(`\Asha256:[0-9a-f]{64}\z`)

var digestInside = regexp.MustCompile(`sha256:[0-9a-f]{64}`)

func slowRepoOk(s string) bool {
	return len(s) <= 100 && repoForm.MatchString(s)
}

func slowManifestOk(text string) bool {
	return manifestForm.MatchString(text) && strings.Count(text, "layer") <= 40
}

func slowNumberOk(numbers ...int64) bool {
	return !slices.ContainsFunc(numbers, func(n int64) bool { return n < 0 || n > 1000000000000 })
}

func copyState(s impl.State) impl.State {
	s.Manifests, s.Tags, s.Blobs = slices.Clone(s.Manifests), slices.Clone(s.Tags), slices.Clone(s.Blobs)
	s.Condemned, s.Sessions = slices.Clone(s.Condemned), slices.Clone(s.Sessions)
	return s
}

func sameState(a, b impl.State) bool {
	return a.Epoch == b.Epoch && slices.Equal(a.Manifests, b.Manifests) && slices.Equal(a.Tags, b.Tags) && slices.Equal(a.Blobs, b.Blobs) && slices.Equal(a.Condemned, b.Condemned) && slices.Equal(a.Sessions, b.Sessions)
}

func isZeroState(s impl.State) bool {
	return sameState(s, impl.State{})
}

// sortedState is a state with its lists in order.
func sortedState(s impl.State) impl.State {
	s = copyState(s)
	slices.SortFunc(s.Manifests, func(a, b impl.Held) int { return strings.Compare(a.Digest, b.Digest) })
	slices.SortFunc(s.Tags, func(a, b impl.TagRow) int {
		if a.Repo != b.Repo {
			return strings.Compare(a.Repo, b.Repo)
		}
		return strings.Compare(a.Tag, b.Tag)
	})
	slices.SortFunc(s.Blobs, func(a, b impl.Pin) int { return strings.Compare(a.Digest, b.Digest) })
	slices.Sort(s.Condemned)
	slices.SortFunc(s.Sessions, func(a, b impl.SessionRow) int { return cmp.Compare(a.Id, b.Id) })
	return s
}

func hasManifest(s impl.State, digest string) bool {
	return slices.ContainsFunc(s.Manifests, func(h impl.Held) bool { return h.Digest == digest })
}

func hasBlob(s impl.State, digest string) bool {
	return slices.ContainsFunc(s.Blobs, func(p impl.Pin) bool { return p.Digest == digest })
}

// namedBy are all digests that the texts of manifests have, as often as they stand there.
func namedBy(s impl.State) []string {
	var names []string
	for _, h := range s.Manifests {
		names = append(names, digestInside.FindAllString(h.Text, -1)...)
	}
	return names
}

func slowNeeded(s impl.State) []string {
	if !slowStateOk(s) {
		return nil
	}
	names := namedBy(s)
	slices.Sort(names)
	return slices.Compact(names)
}

func slowTagAt(s impl.State, repo, tag string) (string, bool) {
	if slowStateOk(s) {
		for _, row := range s.Tags {
			if row.Repo == repo && row.Tag == tag {
				return row.Digest, true
			}
		}
	}
	return "", false
}

func slowRowsOk(s impl.State) bool {
	for _, h := range s.Manifests {
		if !slowManifestOk(h.Text) || h.Digest != digestOf(h.Text) || !slowNumberOk(h.Until) {
			return false
		}
	}
	for _, row := range s.Tags {
		if !slowRepoOk(row.Repo) || !tagForm.MatchString(row.Tag) || !hasManifest(s, row.Digest) {
			return false
		}
	}
	for _, p := range s.Blobs {
		if !digestForm.MatchString(p.Digest) || !slowNumberOk(p.Until) {
			return false
		}
	}
	for _, d := range s.Condemned {
		if !digestForm.MatchString(d) || hasBlob(s, d) {
			return false
		}
	}
	for _, row := range s.Sessions {
		if row.Id < 1 || !slowNumberOk(row.Id, row.Serial, row.Code) {
			return false
		}
	}
	return true
}

// slowRises: what is in order, and has no two alike.
func slowRises(s impl.State) bool {
	if !sameState(sortedState(s), s) {
		return false
	}
	twice := false
	for i := range s.Manifests {
		twice = twice || i > 0 && s.Manifests[i].Digest == s.Manifests[i-1].Digest
	}
	for i := range s.Tags {
		twice = twice || i > 0 && s.Tags[i].Repo == s.Tags[i-1].Repo && s.Tags[i].Tag == s.Tags[i-1].Tag
	}
	for i := range s.Blobs {
		twice = twice || i > 0 && s.Blobs[i].Digest == s.Blobs[i-1].Digest
	}
	for i := range s.Condemned {
		twice = twice || i > 0 && s.Condemned[i] == s.Condemned[i-1]
	}
	for i := range s.Sessions {
		twice = twice || i > 0 && s.Sessions[i].Id == s.Sessions[i-1].Id
	}
	return !twice
}

func slowStateOk(s impl.State) bool {
	if s.Epoch < 0 || s.Epoch > 999999999998 {
		return false
	}
	if len(s.Manifests) > 40 || len(s.Tags) > 100 || len(s.Blobs) > 200 || len(s.Condemned) > 200 || len(s.Sessions) > 20 {
		return false
	}
	if !slowRowsOk(s) || !slowRises(s) {
		return false
	}
	for _, d := range namedBy(s) {
		if !hasBlob(s, d) {
			return false
		}
	}
	return true
}

// slowFormed asks for each of the fields of a row, and that all others are empty.
func slowFormed(c impl.Cmd) bool {
	if !slowNumberOk(c.Session, c.Serial) || c.Op < 1 || c.Op > 7 {
		return false
	}
	row := []string{1: "d", 2: "m", 3: "rtd", 4: "rt", 5: "", 6: "", 7: "d"}[c.Op]
	for field, r := range map[string]struct {
		text  string
		right bool
	}{
		"r": {c.Repo, slowRepoOk(c.Repo)}, "t": {c.Tag, tagForm.MatchString(c.Tag)}, "d": {c.Digest, digestForm.MatchString(c.Digest)}, "m": {c.Text, slowManifestOk(c.Text)},
	} {
		if strings.Contains(row, field) && !r.right || !strings.Contains(row, field) && r.text != "" {
			return false
		}
	}
	return true
}

func slowApply(s impl.State, c impl.Cmd) (impl.State, int64) {
	if !slowStateOk(s) {
		return impl.State{}, 1
	}
	if !slowFormed(c) {
		return copyState(s), 2
	}
	for _, row := range s.Sessions {
		if c.Session == row.Id && c.Serial == row.Serial {
			return copyState(s), row.Code
		}
		if c.Session == row.Id && c.Serial < row.Serial {
			return copyState(s), 6
		}
	}
	next := copyState(s)
	code := slowDo(&next, c)
	if code != 0 {
		next = copyState(s)
	}
	if c.Session == 0 {
		return next, code
	}
	next.Sessions = slices.DeleteFunc(next.Sessions, func(row impl.SessionRow) bool { return row.Id == c.Session })
	next.Sessions = append(next.Sessions, impl.SessionRow{Id: c.Session, Serial: c.Serial, Code: code})
	if len(next.Sessions) > 20 {
		return copyState(s), 5
	}
	return sortedState(next), code
}

// slowDo is what the row of a command says; where it has a code, the state is of no use any more.
func slowDo(s *impl.State, c impl.Cmd) int64 {
	code := int64(0)
	switch c.Op {
	case 1:
		code = slowPin(s, c.Digest)
	case 2:
		code = slowHold(s, c.Text)
	case 3:
		if !hasManifest(*s, c.Digest) {
			return 3
		}
		slowUntag(s, c)
		s.Tags = append(s.Tags, impl.TagRow{Repo: c.Repo, Tag: c.Tag, Digest: c.Digest})
		if len(s.Tags) > 100 {
			code = 5
		}
	case 4:
		code = slowUntag(s, c)
	case 5:
		code = slowMark(s)
	case 6:
		code = slowCondemn(s)
	case 7:
		at := slices.Index(s.Condemned, c.Digest)
		if at < 0 {
			return 3
		}
		s.Condemned = slices.Delete(s.Condemned, at, at+1)
	}
	*s = sortedState(*s)
	return code
}

func slowPin(s *impl.State, digest string) int64 {
	if slices.Contains(s.Condemned, digest) {
		return 4
	}
	for i := range s.Blobs {
		if s.Blobs[i].Digest == digest {
			s.Blobs[i].Until = max(s.Blobs[i].Until, s.Epoch+2)
			return 0
		}
	}
	s.Blobs = append(s.Blobs, impl.Pin{Digest: digest, Until: s.Epoch + 2})
	if len(s.Blobs) > 200 {
		return 5
	}
	return 0
}

func slowHold(s *impl.State, text string) int64 {
	for _, d := range digestInside.FindAllString(text, -1) {
		if !hasBlob(*s, d) {
			return 3
		}
	}
	for i := range s.Manifests {
		if s.Manifests[i].Text == text {
			s.Manifests[i].Until = max(s.Manifests[i].Until, s.Epoch+2)
			return 0
		}
	}
	s.Manifests = append(s.Manifests, impl.Held{Digest: digestOf(text), Text: text, Until: s.Epoch + 2})
	if len(s.Manifests) > 40 {
		return 5
	}
	return 0
}

func slowUntag(s *impl.State, c impl.Cmd) int64 {
	for i, row := range s.Tags {
		if row.Repo == c.Repo && row.Tag == c.Tag {
			s.Tags = slices.Delete(s.Tags, i, i+1)
			return 0
		}
	}
	return 3
}

func slowMark(s *impl.State) int64 {
	if s.Epoch == 999999999998 {
		return 5
	}
	s.Epoch++
	var left []impl.Held
	for _, h := range s.Manifests {
		tagged := slices.ContainsFunc(s.Tags, func(row impl.TagRow) bool { return row.Digest == h.Digest })
		if tagged || h.Until >= s.Epoch {
			left = append(left, h)
		}
	}
	s.Manifests = left
	return 0
}

func slowCondemn(s *impl.State) int64 {
	names := namedBy(*s)
	var left []impl.Pin
	for _, p := range s.Blobs {
		if slices.Contains(names, p.Digest) || p.Until >= s.Epoch {
			left = append(left, p)
		} else {
			s.Condemned = append(s.Condemned, p.Digest)
		}
	}
	s.Blobs = left
	if len(s.Condemned) > 200 {
		return 5
	}
	return 0
}

// rawTexts writes texts with their lengths ahead, without asking whether they are right.
func rawTexts(texts ...string) string {
	out := ""
	for _, s := range texts {
		out += rawNumbers(int64(len(s))) + s
	}
	return out
}

func rawCmd(c impl.Cmd) string {
	return rawNumbers(c.Session, c.Serial, c.Op) + rawTexts(c.Repo, c.Tag, c.Digest, c.Text)
}

func rawState(s impl.State) string {
	var out strings.Builder
	out.WriteString(rawNumbers(s.Epoch, int64(len(s.Manifests))))
	for _, h := range s.Manifests {
		out.WriteString(rawTexts(h.Digest, h.Text) + rawNumbers(h.Until))
	}
	out.WriteString(rawNumbers(int64(len(s.Tags))))
	for _, row := range s.Tags {
		out.WriteString(rawTexts(row.Repo, row.Tag, row.Digest))
	}
	out.WriteString(rawNumbers(int64(len(s.Blobs))))
	for _, p := range s.Blobs {
		out.WriteString(rawTexts(p.Digest) + rawNumbers(p.Until))
	}
	out.WriteString(rawNumbers(int64(len(s.Condemned))) + rawTexts(s.Condemned...))
	out.WriteString(rawNumbers(int64(len(s.Sessions))))
	for _, row := range s.Sessions {
		out.WriteString(rawNumbers(row.Id, row.Serial, row.Code))
	}
	return out.String()
}
