package tests

import (
	"fmt"
	"slices"
	"strings"
	"sync"
	"testing"

	"loop.example/g00141/impl"
)

// checkScript: a script says this, and so does the slow way.
func checkScript(t *testing.T, what, text, want string) {
	t.Helper()
	if got := impl.RunScript(text); got != want {
		t.Errorf("%s: %q, not %q", what, short(got), short(want))
	}
	if got := slowRunScript(text); got != want {
		t.Errorf("%s: the slow way says %q, not %q", what, short(got), short(want))
	}
}

// checkLines plays pairs of a line and what it says, which is nothing of a line without words.
func checkLines(t *testing.T, what string, pairs ...string) {
	t.Helper()
	var text, want strings.Builder
	for pair := range slices.Chunk(pairs, 2) {
		text.WriteString(pair[0] + "\n")
		if pair[1] != "" {
			want.WriteString(pair[1] + "\n")
		}
	}
	if got := impl.RunScript(text.String()); got != want.String() {
		lines := strings.Split(got, "\n")
		for pair := range slices.Chunk(pairs, 2) {
			if pair[1] == "" {
				continue
			}
			if len(lines) == 0 || lines[0] != pair[1] {
				t.Fatalf("%s: %q says %q, not %q", what, pair[0], strings.Join(lines[:min(1, len(lines))], ""), pair[1])
			}
			lines = lines[1:]
		}
	}
	checkScript(t, what, text.String(), want.String())
}

func TestScriptByHand(t *testing.T) {
	checkLines(t, "an image, from its election to its tag",
		"who", "none", "nodes 3 3", "ok", "who", "leader", "start 1", "ok", "who", "leader", "run 2", "ran 2", "who", "leader", "run 1", "ran 1", "who", "leader 1", "done 1", "done 0 of 1",
		"run 9", "ran 5", "done 1", "done 1 of 1", "done 2", "done 0 of 1", "beat 1", "ok", "run 9", "ran 4", "done 2", "done 1 of 1",
		"put 1 x", "ok", "pin 1 x", "ok", "image 1 x", "ok", "tag 1 app v1 x", "ok", "at 1 app v1", "no", "done 1", "done 1 of 4",
		"beat 1", "ok", "run 9", "ran 4", "at 1 app v1", "yes", "at 2 app v1", "no", "done 2", "done 1 of 4", "beat 1", "ok", "run 9", "ran 4", "at 2 app v1", "yes", "at 3 app v1", "yes",
		"at 1 app v2", "no", "at 1 lib v1", "no", "done 3", "done 4 of 4", "audit", "verdict 0")
	checkLines(t, "one alone that loses its power",
		"nodes 1 1", "ok", "start 1", "ok", "who", "leader 1", "mark 1", "ok", "done 1", "done 2 of 2", "crash 1", "ok", "who", "leader", "done 1", "done 0 of 2", "mark 1", "no 4", "crash 1", "no 4",
		"up 1", "ok", "up 1", "no 4", "who", "leader", "mark 1", "no 5", "done 1", "done 0 of 2", "start 1", "ok", "who", "leader 1", "done 1", "done 3 of 3", "audit", "verdict 0")
}

// Who has led, who leads, and who only believes to.
func TestScriptWho(t *testing.T) {
	two := []string{"nodes 3 3", "ok", "start 1", "ok", "run 99", "ran 8", "who", "leader 1", "start 2", "ok", "deliver 10", "ok", "who", "leader 1", "deliver 11", "ok", "who", "leader 1 2"}
	checkLines(t, "two", append(two, "audit", "verdict 0")...)
	checkLines(t, "the first one learns of it", append(two, "deliver 9", "ok", "who", "leader 2")...)
	checkLines(t, "the first one loses its power", append(two, "crash 1", "ok", "who", "leader 2", "up 1", "ok", "who", "leader 2", "crash 2", "ok", "who", "leader")...)
	checkLines(t, "the second one loses its power", append(two, "crash 2", "ok", "who", "leader 1")...)
	checkLines(t, "a leader that starts again", "nodes 1 1", "ok", "start 1", "ok", "start 1", "ok", "who", "leader 1", "done 1", "done 1 of 1")
	checkLines(t, "a learner", "nodes 2 1", "ok", "start 2", "ok", "run 9", "ran 0", "who", "leader", "start 1", "ok", "who", "leader 1")
	checkLines(t, "seven", "nodes 7 7", "ok", "start 7", "ok", "run 99", "ran 24", "who", "leader 7", "audit", "verdict 0")
	// Each of three leads in a term of its own, and only the last of them is heard by the others.
	checkLines(t, "three",
		"nodes 5 5", "ok", "start 1", "ok", "run 99", "ran 16", "who", "leader 1",
		"start 2", "ok", "deliver 18", "ok", "deliver 19", "ok", "deliver 21", "ok", "deliver 22", "ok", "who", "leader 1 2",
		"start 3", "ok", "deliver 29", "ok", "deliver 30", "ok", "deliver 31", "ok", "deliver 32", "ok", "who", "leader 1 2 3", "audit", "verdict 0")
}

func TestScriptNodes(t *testing.T) {
	for n := range 9 {
		for voters := range 9 {
			said := "no"
			then := "none"
			if n >= 1 && n <= 7 && voters >= 1 && voters <= n {
				said, then = "ok", "leader"
			}
			line := fmt.Sprint("nodes ", n, " ", voters)
			checkLines(t, line, line, said, "who", then)
			checkLines(t, line+" behind another one", "nodes 2 2", "ok", line, said, "who", then)
		}
	}
	checkLines(t, "as great as can be", "nodes 1000 1", "no", "nodes 1 1000", "no", "nodes 1001 1", "what", "nodes 1 1001", "what")
	checkLines(t, "a new one is new", "nodes 1 1", "ok", "start 1", "ok", "done 1", "done 1 of 1", "nodes 1 1", "ok", "done 1", "done 0 of 0", "who", "leader")
	checkLines(t, "of another size", "nodes 3 3", "ok", "start 1", "ok", "start 3", "ok", "nodes 2 2", "ok", "start 3", "no 3", "run 9", "ran 0", "deliver 1", "no 5")
	checkLines(t, "one that is none does away with the one ahead", "nodes 1 1", "ok", "start 1", "ok", "nodes 0 1", "no", "who", "none", "audit", "none", "done 1", "none", "nodes 1 1", "ok", "who", "leader")
	checkLines(t, "a line that is none does not", "nodes 1 1", "ok", "start 1", "ok", "nodes 1", "what", "nodes 01 1", "what", "who", "leader 1")
	quota := []string{"nodes 1 1", "ok"}
	for i := range 59 {
		quota = append(quota, fmt.Sprint("put 1 abcdefghij", 10+i), "ok")
	}
	checkLines(t, "as many blobs as a script can put", quota...)
}

func TestScriptStepsAtAMachine(t *testing.T) {
	words := []string{"start %s", "beat %s", "crash %s", "up %s", "learn %s 2", "promote %s 2", "remove %s 2", "put %s x", "pin %s x", "image %s x", "tag %s app v1 x", "untag %s app v1", "mark %s", "condemn %s"}
	for _, form := range words {
		line := func(at string) string { return fmt.Sprintf(form, at) }
		up := strings.HasPrefix(form, "up")
		down, there := "no 4", "ok"
		if up {
			down, there = "ok", "no 4"
		}
		checkLines(t, form+" of no machine", "nodes 2 2", "ok", line("0"), "no 3", line("3"), "no 3", line("1000"), "no 3", line("1001"), "what")
		checkLines(t, form+" of one that is down", "nodes 2 2", "ok", "crash 2", "ok", line("2"), down)
		if form == "promote %s 2" || form == "remove %s 2" {
			continue
		}
		checkLines(t, form+" of a leader", "nodes 1 1", "ok", "start 1", "ok", line("1"), there)
	}
	for _, form := range words[4:] {
		if form != "put %s x" {
			checkLines(t, form+" of one that does not lead", "nodes 2 2", "ok", "start 1", "ok", fmt.Sprintf(form, "1"), "no 5", fmt.Sprintf(form, "2"), "no 5", "done 1", "done 0 of 0")
		}
	}
	checkLines(t, "beat of one that does not lead", "nodes 2 2", "ok", "beat 1", "ok", "run 9", "ran 0")
	checkLines(t, "put of one that does not lead", "nodes 2 2", "ok", "put 2 x", "ok", "put 2 y", "ok", "put 2 x", "ok")
	checkLines(t, "beat of a leader", "nodes 2 1", "ok", "start 1", "ok", "run 9", "ran 0", "learn 1 2", "ok", "beat 1", "ok", "run 9", "ran 4", "done 2", "done 2 of 2")
	checkLines(t, "both of two start", "nodes 2 2", "ok", "start 1", "ok", "start 2", "ok", "run 99", "ran 4", "who", "leader", "start 1", "ok", "run 99", "ran 4", "who", "leader 1")
	checkLines(t, "one of two starts twice", "nodes 2 2", "ok", "start 1", "ok", "start 1", "ok", "start 2", "ok", "run 99", "ran 8", "who", "leader 1")
}

func TestScriptPackets(t *testing.T) {
	two := []string{"nodes 2 2", "ok", "start 1", "ok"}
	checkLines(t, "deliver", append(two, "deliver 0", "no 5", "deliver 2", "no 5", "deliver 1000", "no 5", "deliver 1", "ok", "deliver 1", "no 5", "deliver 2", "ok", "who", "leader 1", "deliver 2", "no 5")...)
	checkLines(t, "keep", append(two, "keep 0", "no 5", "keep 2", "no 5", "keep 1", "ok", "keep 1", "ok", "deliver 3", "ok", "who", "leader 1", "keep 2", "ok", "drop 1", "ok", "keep 1", "no 5", "run 99", "ran 3")...)
	checkLines(t, "drop", append(two, "drop 0", "no 5", "drop 2", "no 5", "drop 1", "ok", "drop 1", "no 5", "deliver 1", "no 5", "run 9", "ran 0", "who", "leader")...)
	checkLines(t, "one for a machine that is down", append(two, "crash 2", "ok", "keep 1", "ok", "deliver 1", "ok", "run 9", "ran 0", "up 2", "ok", "deliver 1", "no 5")...)
	checkLines(t, "kept until it is up", append(two, "crash 2", "ok", "keep 1", "ok", "up 2", "ok", "deliver 1", "ok", "deliver 2", "ok", "who", "leader 1")...)
	checkLines(t, "without any", "nodes 1 1", "ok", "deliver 1", "no 5", "keep 1", "no 5", "drop 1", "no 5", "run 1", "ran 0")
}

func TestScriptRun(t *testing.T) {
	checkLines(t, "0", "nodes 2 2", "ok", "start 1", "ok", "run 0", "ran 0", "deliver 1", "ok")
	checkLines(t, "fewer than there are", "nodes 3 3", "ok", "start 1", "ok", "run 1", "ran 1", "deliver 1", "no 5", "deliver 2", "ok")
	checkLines(t, "more than there are", "nodes 3 3", "ok", "start 1", "ok", "run 1000", "ran 8", "run 1000", "ran 0", "run 1001", "what")
	checkLines(t, "the least Id ahead", "nodes 3 3", "ok", "start 1", "ok", "start 2", "ok", "drop 1", "ok", "drop 3", "ok", "run 1", "ran 1", "drop 2", "no 5", "drop 4", "ok")
	many := []string{"nodes 7 7", "ok"}
	for i := range 40 {
		many = append(many, fmt.Sprint("start ", 1+i%7), "ok")
	}
	for _, r := range []struct{ times, ran string }{{"0", "0"}, {"1", "1"}, {"199", "199"}, {"200", "200"}, {"201", "200"}, {"202", "200"}, {"999", "200"}, {"1000", "200"}} {
		checkLines(t, "run "+r.times+" of many", append(slices.Clone(many), "run "+r.times, "ran "+r.ran, "audit", "verdict 0")...)
	}
	checkLines(t, "run 1001 of many", append(slices.Clone(many), "run 1001", "what", "run 200", "ran 200", "run 10", "ran 10")...)
}

// What a command did is seen by which ones behind it do something.
func TestScriptCommands(t *testing.T) {
	one := []string{"nodes 1 1", "ok", "start 1", "ok"}
	see := func(what, said string, lines ...string) {
		t.Helper()
		pairs, entries := slices.Clone(one), 1
		for _, line := range lines {
			pairs = append(pairs, line, "ok")
			if !strings.HasPrefix(line, "put") {
				entries++
			}
		}
		checkLines(t, what, append(pairs, "at 1 app v1", said, "done 1", fmt.Sprintf("done %d of %d", entries, entries), "audit", "verdict 0")...)
	}
	see("all of it", "yes", "pin 1 x", "image 1 x", "tag 1 app v1 x")
	see("not pinned", "no", "image 1 x", "tag 1 app v1 x")
	see("another blob pinned", "no", "pin 1 y", "image 1 x", "tag 1 app v1 x")
	see("no image", "no", "pin 1 x", "tag 1 app v1 x")
	see("another image", "no", "pin 1 x", "image 1 x", "tag 1 app v1 y")
	see("another repository", "no", "pin 1 x", "image 1 x", "tag 1 lib v1 x")
	see("another tag", "no", "pin 1 x", "image 1 x", "tag 1 app v2 x")
	see("put only", "no", "put 1 x", "image 1 x", "tag 1 app v1 x")
	see("untagged", "no", "pin 1 x", "image 1 x", "tag 1 app v1 x", "untag 1 app v1")
	see("another one untagged", "yes", "pin 1 x", "image 1 x", "tag 1 app v1 x", "untag 1 app v2", "untag 1 lib v1")
	see("tagged once more", "yes", "pin 1 x", "image 1 x", "tag 1 app v1 x", "untag 1 app v1", "tag 1 app v1 x")
	see("two marks are not enough", "yes", "pin 1 x", "image 1 x", "mark 1", "mark 1", "tag 1 app v1 x")
	see("three marks take an image without a tag", "no", "pin 1 x", "image 1 x", "mark 1", "mark 1", "mark 1", "tag 1 app v1 x")
	see("three marks do not take one with a tag", "yes", "pin 1 x", "image 1 x", "tag 1 app v1 x", "mark 1", "mark 1", "mark 1", "condemn 1")
	see("condemned behind three marks", "no", "pin 1 x", "mark 1", "mark 1", "mark 1", "condemn 1", "pin 1 x", "image 1 x", "tag 1 app v1 x")
	see("not condemned", "yes", "pin 1 x", "mark 1", "mark 1", "mark 1", "pin 1 x", "image 1 x", "tag 1 app v1 x")
	see("condemned too early", "yes", "pin 1 x", "mark 1", "mark 1", "condemn 1", "image 1 x", "tag 1 app v1 x")
	see("names at their limit", "yes", "pin 1 abcdefghij01", "image 1 abcdefghij01", "tag 1 app v1 abcdefghij01")
}

func TestScriptMembers(t *testing.T) {
	one := []string{"nodes 3 1", "ok", "start 1", "ok"}
	checkLines(t, "a learner that is promoted", append(slices.Clone(one),
		"promote 1 2", "no 5", "learn 1 2", "ok", "learn 1 2", "no 5", "done 1", "done 2 of 2", "mark 1", "ok", "done 1", "done 3 of 3",
		"promote 1 2", "ok", "done 1", "done 3 of 4", "mark 1", "ok", "done 1", "done 3 of 5", "beat 1", "ok", "run 99", "ran 4", "done 1", "done 5 of 5",
		"remove 1 2", "ok", "done 1", "done 6 of 6", "mark 1", "ok", "done 1", "done 7 of 7", "done 2", "done 3 of 5", "audit", "verdict 0")...)
	checkLines(t, "numbers that are none", append(slices.Clone(one), "learn 1 0", "no 5", "learn 1 50", "ok", "learn 1 51", "no 5", "learn 1 1000", "no 5", "learn 1 1001", "what", "remove 1 50", "ok", "remove 1 50", "no 5", "promote 1 0", "no 5", "remove 1 0", "no 5")...)
	checkLines(t, "itself", append(slices.Clone(one), "learn 1 1", "no 5", "promote 1 1", "no 5", "remove 1 1", "no 5")...)
	checkLines(t, "one change at a time", "nodes 3 3", "ok", "start 1", "ok", "run 99", "ran 8", "remove 1 3", "ok", "remove 1 2", "no 5", "beat 1", "ok", "run 99", "ran 2", "remove 1 2", "ok", "audit", "verdict 0")
	checkLines(t, "no change ahead of its own entry", "nodes 3 3", "ok", "start 1", "ok", "run 3", "ran 3", "who", "leader 1", "learn 1 4", "no 5", "run 9", "ran 5", "learn 1 4", "ok")
}

func TestScriptAtAndDone(t *testing.T) {
	three := []string{"nodes 3 2", "ok"}
	checkLines(t, "machines that are there and not", append(three, "done 0", "no", "done 1", "done 0 of 0", "done 3", "done 0 of 0", "done 4", "no", "done 1000", "no", "done 1001", "what", "at 0 a b", "no", "at 1 a b", "no", "at 3 a b", "no", "at 4 a b", "no", "at 1000 a b", "no", "at 1001 a b", "what")...)
	checkLines(t, "one that is not Up", "nodes 1 1", "ok", "start 1", "ok", "pin 1 x", "ok", "image 1 x", "ok", "tag 1 a b x", "ok", "at 1 a b", "yes", "done 1", "done 4 of 4",
		"crash 1", "ok", "at 1 a b", "no", "done 1", "done 0 of 4", "up 1", "ok", "at 1 a b", "no", "done 1", "done 0 of 4", "start 1", "ok", "at 1 a b", "yes", "done 1", "done 5 of 5")
	checkLines(t, "no cluster", "done 0", "none", "at 0 a b", "none", "done 1", "none", "at 1 a b", "none", "at 1 A b", "what", "done x", "what")
	long := strings.Repeat("r", 100) + " " + strings.Repeat("T", 128)
	checkLines(t, "names at their limits", "nodes 1 1", "ok", "start 1", "ok", "pin 1 x", "ok", "image 1 x", "ok", "tag 1 "+long+" x", "ok", "at 1 "+long, "yes", "untag 1 "+long, "ok", "at 1 "+long, "no")
}

// rightArguments has for each letter of a form words that are so, wrongArguments such that are not.
var rightArguments = map[byte][]string{
	'N': {"1", "0", "7", "10", "100", "999", "1000"},
	'R': {"app", "a", "0", "a/b", "a__b.c---d/e", strings.Repeat("r", 100)},
	'T': {"v1", "V", "_", "0", "a.b-c_", strings.Repeat("t", 128)},
	'D': {"x", "z", "a0", "abcdefghijkl", "nodes"},
}

var wrongArguments = map[byte][]string{
	'N': {"01", "00", "001", "+1", "-1", "-0", "1001", "1010", "2000", "10000", "01000", "999999999999999", "1000000000000000", "18446744073709551617", "1.0", "1e2", "0x1", "1_0", "a", "x", "1\t", "\t1", "1\r", "1\x00", "١", "１", "1,"},
	'R': {"App", "/a", "a/", "a//b", "-a", "a-", ".a", "a.", "_a", "a___b", "a..b", "a:b", "a@b", "é", "a\t", strings.Repeat("r", 101), "\x00"},
	'T': {".a", "-a", "a/b", "a:b", "é", "a\t", "a@", "a+b", strings.Repeat("t", 129), "\xff"},
	'D': {"X", "0", "0a", "9", "a-b", "a_b", "a.b", "aB", "abcdefghijklm", "é", "a\t", "\ta", "a/b", "-"},
}

// someLine is a line of a form with the first of what is right.
func someLine(word, form string) []string {
	words := []string{word}
	for i := range len(form) {
		words = append(words, rightArguments[form[i]][0])
	}
	return words
}

func TestScriptLinesThatAreNone(t *testing.T) {
	ahead := map[string][]string{"no cluster": nil, "a cluster": {"nodes 3 3", "ok"}, "one that was none": {"nodes 3 3", "ok", "nodes 9 9", "no"}}
	for where, pairs := range ahead {
		none := func(words ...string) {
			t.Helper()
			line := strings.Join(words, " ")
			checkLines(t, where, append(slices.Clone(pairs), line, "what", " "+line+"  ", "what")...)
		}
		for word, form := range scriptForms() {
			line := someLine(word, form)
			for n := range line {
				if n > 0 {
					none(line[:n]...)
				}
				none(slices.Concat(line[:n], line[n+1:], []string{"!"})...)
			}
			for _, more := range []string{"1", "x", "0", word} {
				none(append(slices.Clone(line), more)...)
				none(append([]string{more}, line...)...)
			}
			none(append([]string{strings.ToUpper(word)}, line[1:]...)...)
			none(append([]string{strings.ToUpper(word[:1]) + word[1:]}, line[1:]...)...)
			none(append([]string{word + "s"}, line[1:]...)...)
			none(append([]string{word[1:]}, line[1:]...)...)
			none(append([]string{word + "\t"}, line[1:]...)...)
			none(append([]string{"\t" + word}, line[1:]...)...)
			none(append(slices.Clone(line[:len(line)-1]), line[len(line)-1]+"\r")...)
			if len(line) > 1 {
				none(strings.Join(line, "\t"))
				none(strings.Join(line, ""))
				none(append([]string{line[1], line[0]}, line[2:]...)...)
			}
			for i := range len(form) {
				for _, wrong := range wrongArguments[form[i]] {
					none(slices.Concat(line[:i+1], []string{wrong}, line[i+2:])...)
				}
			}
		}
		for _, word := range []string{"what", "none", "ok", "no", "x", "1", "leader", "verdict", "ran", "\t", "\x00", "é", "start1", "start-1", "#", "nodes\v3"} {
			none(word)
			none(word, "1")
		}
	}
}

func TestScriptWithoutACluster(t *testing.T) {
	for where, pairs := range map[string][]string{"at first": nil, "behind one that was none": {"nodes 0 0", "no"}, "behind one and one that was none": {"nodes 3 3", "ok", "start 1", "ok", "nodes 3 4", "no"}} {
		for word, form := range scriptForms() {
			if word == "nodes" {
				continue
			}
			line := someLine(word, form)
			checkLines(t, where+": "+word, append(slices.Clone(pairs), strings.Join(line, " "), "none")...)
			for i := range len(form) {
				for _, right := range rightArguments[form[i]] {
					text := strings.Join(slices.Concat(line[:i+1], []string{right}, line[i+2:]), " ")
					checkLines(t, where+": "+text, append(slices.Clone(pairs), text, "none")...)
				}
			}
		}
	}
	// With a cluster each of these words is taken as it stands.
	for word, form := range scriptForms() {
		line := someLine(word, form)
		for i := range len(form) {
			for _, right := range rightArguments[form[i]] {
				text := "nodes 1 1\n" + strings.Join(slices.Concat(line[:i+1], []string{right}, line[i+2:]), " ") + "\n"
				if got, want := impl.RunScript(text), slowRunScript(text); got != want || strings.Contains(got, "what") || strings.Contains(got, "none") {
					t.Errorf("%q says %q, not %q", text, got, want)
				}
			}
		}
	}
}

func TestScriptBlanks(t *testing.T) {
	checkLines(t, "blanks", "  nodes   3  3", "ok", "nodes 3 3 ", "ok", "", "", " ", "", strings.Repeat(" ", 500), "", "   who   ", "leader", "start"+strings.Repeat(" ", 900)+"1", "ok", "run 9  ", "ran 8", "  who", "leader 1")
	checkLines(t, "what is no blank", "\t", "what", "\t \t", "what", "\r", "what", "\v", "what", "\f", "what", "\u00a0", "what", "\u2003", "what", "\x00", "what", "\xff", "what", "who\u00a0", "what", "\u0085who", "what")
	checkLines(t, "lines that end otherwise", "who\r", "what", "who\rwho", "what", "nodes 1 1\r", "what", "who", "none")
	checkScript(t, "nothing", "", "")
	checkScript(t, "an empty line", "\n", "")
	checkScript(t, "empty lines and blanks", "\n \n\n  \n", "")
	checkScript(t, "a zero byte ends nothing", "who\x00\nwho\n", "what\nnone\n")
}

func TestScriptTooLong(t *testing.T) {
	const tooLong = "too long\n"
	for n := range 64 {
		for what, line := range map[string]string{"lines": "who\n", "empty lines": "\n", "lines of blanks": "  \n", "lines that are none": "x\n"} {
			text := strings.Repeat(line, n)
			want := strings.Repeat(map[string]string{"who\n": "none\n", "x\n": "what\n"}[line], n)
			if n > 60 {
				want = tooLong
			}
			checkScript(t, fmt.Sprint(n, " ", what), text, want)
			checkScript(t, fmt.Sprint(n, " ", what, " and one that is not ended"), text+"who", tooLong)
			checkScript(t, fmt.Sprint(n, " ", what, " and a blank behind"), text+" ", tooLong)
		}
	}
	for _, size := range []int{1, 2, 5, 5998, 5999, 6000, 6001, 6002, 7000, 1000000} {
		want := tooLong
		if size <= 6000 {
			want = "none\n"
		}
		if size >= 4 {
			checkScript(t, fmt.Sprint(size, " bytes"), strings.Repeat(" ", size-4)+"who\n", want)
			checkScript(t, fmt.Sprint(size, " bytes, not ended"), strings.Repeat(" ", size-3)+"who", tooLong)
			checkScript(t, fmt.Sprint(size, " bytes, two lines"), "who\n"+strings.Repeat(" ", size-5)+"\n", want)
		}
		want = tooLong
		if size <= 6000 {
			want = "what\n"
		}
		if size >= 2 {
			checkScript(t, fmt.Sprint(size, " bytes in one word"), strings.Repeat("x", size-1)+"\n", want)
		}
	}
	full := strings.Repeat("who"+strings.Repeat(" ", 96)+"\n", 60)
	if len(full) != 6000 {
		t.Fatal(len(full))
	}
	checkScript(t, "as much as can be", full, strings.Repeat("none\n", 60))
	checkScript(t, "as much as can be, and a byte", " "+full, tooLong)
	checkScript(t, "as much as can be, and a line", full+"\n", tooLong)
	checkScript(t, "not ended", "who", tooLong)
	checkScript(t, "a blank", " ", tooLong)
	checkScript(t, "not ended behind what is right", "nodes 1 1\nstart 1\nwho", tooLong)
	checkScript(t, "ended by another byte", "who\r", tooLong)
}

// someScripts are right ones of all kinds.
func someScripts() []string {
	return []string{
		"",
		"who\nnodes 3 3\nstart 1\nrun 9\nwho\nbeat 1\nrun 9\nput 1 x\npin 1 x\nimage 1 x\ntag 1 app v1 x\nbeat 1\nrun 9\nat 1 app v1\ndone 1\n",
		"nodes 1 1\nstart 1\ncrash 1\nwho\nbeat 1\nup 1\nup 1\nstart 1\nmark 1\ndone 1\nuntag 1 app v1\ndone 1\nremove 1 1\nlearn 1 2\n",
		"nodes 0 1\nnodes 1 1\nwhat\nstart\n\nstart 01\ntag 1 A v1 x\nput 1 X\n  \ndone 9\nat 9 app v1\n who \ndeliver 1\n",
		"nodes 5 3\nstart 2\nkeep 1\nkeep 1\ndrop 2\nrun 200\nlearn 2 4\nbeat 2\nrun 200\npromote 2 4\nbeat 2\nrun 200\ncrash 2\nstart 4\nrun 200\nwho\ncondemn 4\nup 2\nbeat 4\nrun 200\ndone 2\nnodes 9 9\nwho\nnodes 2 2\nwho\n",
		"nodes 2 2\nstart 1\nstart 2\nstart 1\nkeep 1\nkeep 2\nkeep 3\nrun 3\nrun 99\nstart 2\nrun 99\nmark 2\nmark 2\npin 2 a\ncrash 1\nbeat 2\nrun 99\nup 1\nbeat 2\nrun 99\nbeat 2\nrun 99\ndone 1\ndone 2\n",
	}
}

// checkBeginnings: what a script says is a beginning of what it says with more behind it, and an audit behind each line finds nothing.
func checkBeginnings(t *testing.T, text string) {
	t.Helper()
	whole := impl.RunScript(text)
	lines := strings.SplitAfter(text, "\n")
	lines = lines[:len(lines)-1]
	ahead, cluster := "", false
	for n := range lines {
		part := strings.Join(lines[:n+1], "")
		said := impl.RunScript(part)
		if !strings.HasPrefix(said, ahead) || !strings.HasPrefix(whole, said) || strings.Count(said[len(ahead):], "\n") != min(1, len(strings.TrimLeft(lines[n], " \n"))) {
			t.Fatalf("%q says %q, ahead of its last line %q, of all %q", part, said, ahead, whole)
		}
		if words := strings.Fields(lines[n]); len(words) > 0 && words[0] == "nodes" {
			switch said[len(ahead):] {
			case "ok\n":
				cluster = true
			case "no\n":
				cluster = false
			}
		}
		verdict := "none\n"
		if cluster {
			verdict = "verdict 0\n"
		}
		if n+1 < impl.MaxScript && len(part)+6 <= impl.MaxLines {
			if got := impl.RunScript(part + "audit\n"); got != said+verdict {
				t.Fatalf("%q and an audit say %q", part, got)
			}
		}
		ahead = said
	}
	if ahead != whole {
		t.Fatalf("%q says %q and %q", text, ahead, whole)
	}
}

func TestScriptBeginnings(t *testing.T) {
	for _, text := range someScripts() {
		checkBeginnings(t, text)
		checkScript(t, "some script", text, slowRunScript(text))
		// An audit changes nothing: with one behind each line all else is said as before.
		lines := strings.Split(strings.TrimSuffix(text, "\n"), "\n")
		audited := impl.RunScript(strings.Join(lines, "\naudit\n") + "\n")
		rest := strings.NewReplacer("verdict 0\n", "").Replace(audited)
		if text != "" && strings.ReplaceAll(rest, "none\n", "") != strings.ReplaceAll(impl.RunScript(text), "none\n", "") {
			t.Errorf("%q, with audits: %q", text, audited)
		}
	}
}

func TestScriptOfOddBytes(t *testing.T) {
	for b := range 256 {
		text := string([]byte{byte(b)})
		for _, script := range []string{text, text + "\n", "who" + text + "\n", text + "who\n", "nodes" + text + "1" + text + "1\n", "nodes 1 1\nput 1 x" + text + "\n", "nodes 1 1\nat 1 a" + text + "b v\n", "nodes 1 1\n" + text + "start 1\n"} {
			checkScript(t, fmt.Sprint("byte ", b), script, slowRunScript(script))
		}
	}
}

// Nothing is kept from one script to another, nor between ones that run at the same time.
func TestScriptsAtTheSameTime(t *testing.T) {
	scripts := someScripts()
	var first []string
	for _, text := range scripts {
		first = append(first, impl.RunScript(text))
	}
	var crew sync.WaitGroup
	for worker := range 8 {
		crew.Go(func() {
			for n := range 4 * len(scripts) {
				i := (n*5 + worker) % len(scripts)
				if got := impl.RunScript(scripts[i]); got != first[i] {
					t.Errorf("%q says %q at the same time, not %q", scripts[i], got, first[i])
				}
			}
		})
	}
	crew.Wait()
	for i, text := range scripts {
		if got := impl.RunScript(text); got != first[i] {
			t.Errorf("%q says %q later, not %q", text, got, first[i])
		}
	}
}
