package tests

import (
	"fmt"
	"regexp"
	"strconv"
	"strings"

	"loop.example/g00141/impl"
)

// The slow way of chapter 20: written from the document's words, one behind the other, beside the program. What it asks of the cluster it asks of chapter 18, by Play alone.

var (
	scriptNumberForm = regexp.MustCompile(`\A(0|[1-9][0-9]{0,2}|1000)\z`)
	scriptBlobForm   = regexp.MustCompile(`\A[a-z][a-z0-9]{0,11}\z`)
)

// scriptForms are the words that stand behind the first one: N for a number, R and T for a repository and a tag, D for a name.
func scriptForms() map[string]string {
	return map[string]string{
		"nodes": "NN", "start": "N", "beat": "N", "crash": "N", "up": "N", "deliver": "N", "keep": "N", "drop": "N", "run": "N",
		"learn": "NN", "promote": "NN", "remove": "NN", "put": "ND", "pin": "ND", "image": "ND", "tag": "NRTD", "untag": "NRT",
		"mark": "N", "condemn": "N", "who": "", "at": "NRT", "done": "N", "audit": "",
	}
}

func slowWordOk(form byte, word string) bool {
	switch form {
	case 'N':
		return scriptNumberForm.MatchString(word)
	case 'R':
		return slowRepoOk(word)
	case 'T':
		return tagForm.MatchString(word)
	}
	return scriptBlobForm.MatchString(word)
}

func slowLineOk(words []string) bool {
	form, known := scriptForms()[words[0]]
	if !known || len(words) != len(form)+1 {
		return false
	}
	for i := range len(form) {
		if !slowWordOk(form[i], words[i+1]) {
			return false
		}
	}
	return true
}

// A slowScript is what there is while a script is gone through.
type slowScript struct {
	cluster impl.Cluster
	there   bool
}

func slowRunScript(text string) string {
	if len(text) > 6000 || strings.Count(text, "\n") > 60 || text != "" && !strings.HasSuffix(text, "\n") {
		return "too long\n"
	}
	said := ""
	s := &slowScript{}
	for line := range strings.SplitSeq(text, "\n") {
		var words []string
		for word := range strings.SplitSeq(line, " ") {
			if word != "" {
				words = append(words, word)
			}
		}
		if len(words) > 0 {
			said += s.line(words) + "\n"
		}
	}
	return said
}

func (s *slowScript) line(words []string) string {
	if !slowLineOk(words) {
		return "what"
	}
	number := func(i int) int64 {
		n, _ := strconv.ParseInt(words[i], 10, 64)
		return n
	}
	if words[0] == "nodes" {
		s.cluster, s.there = impl.ClusterNew(number(1), number(2), 1000)
		if !s.there {
			return "no"
		}
		return "ok"
	}
	if !s.there {
		return "none"
	}
	switch words[0] {
	case "run":
		return s.run(number(1))
	case "who":
		return s.who()
	case "audit":
		return fmt.Sprint("verdict ", slowVerdict(s.cluster))
	case "at", "done":
		if number(1) < 1 || number(1) > int64(len(s.cluster.Machines)) {
			return "no"
		}
		m := s.cluster.Machines[number(1)-1]
		if words[0] == "done" {
			return fmt.Sprint("done ", m.Done, " of ", len(m.Node.Log))
		}
		if _, there := slowTagAt(m.State, words[2], words[3]); there {
			return "yes"
		}
		return "no"
	}
	return s.play(slowStep(words, number))
}

func slowStep(words []string, number func(i int) int64) impl.Step {
	image := func(data string) string {
		return fmt.Sprintf("config %s\nlayer %s\n", digestOf(data), digestOf(data))
	}
	n := number(1)
	switch words[0] {
	case "start":
		return impl.Step{Kind: 1, At: n}
	case "beat":
		return impl.Step{Kind: 2, At: n}
	case "crash":
		return impl.Step{Kind: 7, At: n}
	case "up":
		return impl.Step{Kind: 8, At: n}
	case "deliver", "keep":
		return impl.Step{Kind: 3, Id: n, Keep: words[0] == "keep"}
	case "drop":
		return impl.Step{Kind: 4, Id: n}
	case "learn":
		return impl.Step{Kind: 6, At: n, Op: 1, Id: number(2)}
	case "promote":
		return impl.Step{Kind: 6, At: n, Op: 2, Id: number(2)}
	case "remove":
		return impl.Step{Kind: 6, At: n, Op: 3, Id: number(2)}
	case "put":
		return impl.Step{Kind: 9, At: n, Cmd: impl.Cmd{Text: words[2]}}
	}
	cmd := impl.Cmd{}
	switch words[0] {
	case "pin":
		cmd = impl.Cmd{Op: 1, Digest: digestOf(words[2])}
	case "image":
		cmd = impl.Cmd{Op: 2, Text: image(words[2])}
	case "tag":
		cmd = impl.Cmd{Op: 3, Repo: words[2], Tag: words[3], Digest: digestOf(image(words[4]))}
	case "untag":
		cmd = impl.Cmd{Op: 4, Repo: words[2], Tag: words[3]}
	case "mark":
		cmd = impl.Cmd{Op: 5}
	case "condemn":
		cmd = impl.Cmd{Op: 6}
	}
	return impl.Step{Kind: 5, At: n, Cmd: cmd}
}

func (s *slowScript) play(a impl.Step) string {
	next, code := impl.Play(s.cluster, a)
	if code != 0 {
		return fmt.Sprint("no ", code)
	}
	s.cluster = next
	return "ok"
}

func (s *slowScript) run(times int64) string {
	ran := 0
	for range min(times, 200) {
		least := int64(0)
		for _, p := range s.cluster.Net.Packets {
			if least == 0 || p.Id < least {
				least = p.Id
			}
		}
		if least == 0 || s.play(impl.Step{Kind: 3, Id: least}) != "ok" {
			break
		}
		ran++
	}
	return fmt.Sprint("ran ", ran)
}

func (s *slowScript) who() string {
	said := "leader"
	for i, m := range s.cluster.Machines {
		if m.Up && m.Node.Role == 2 {
			said += fmt.Sprint(" ", i+1)
		}
	}
	return said
}
