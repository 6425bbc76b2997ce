package tests

import (
	"fmt"
	"math/rand/v2"
	"strings"
	"testing"

	"loop.example/g00141/impl"
)

// randomLine is a line that mostly does something in a cluster of n machines, of which one mostly leads.
func randomLine(r *rand.Rand, n, leader int) string {
	at := leader
	if r.IntN(4) == 0 {
		at = pick(r, 0, n+1, 1+r.IntN(n), 1+r.IntN(n), 1+r.IntN(n), 1+r.IntN(n))
	}
	other := 1 + r.IntN(n+1)
	blob := pick(r, "x", "y", "abcdefghij12", "b0")
	name := pick(r, "app", "lib/x") + " " + pick(r, "v1", "V2")
	switch r.IntN(24) {
	case 0:
		return fmt.Sprint("start ", pick(r, at, other))
	case 1:
		return fmt.Sprint("crash ", other)
	case 2, 3:
		return fmt.Sprint("up ", other)
	case 4:
		return fmt.Sprint(pick(r, "deliver ", "keep ", "keep ", "drop "), r.IntN(60))
	case 5, 6, 7, 8:
		return fmt.Sprint("run ", pick(r, 0, 1, 2, 5, 9, 40, 199, 200, 201, 1000))
	case 9, 10, 11:
		return fmt.Sprint("beat ", at)
	case 12:
		return fmt.Sprint(pick(r, "learn ", "promote ", "remove "), at, " ", other)
	case 13:
		return fmt.Sprint("put ", pick(r, at, other), " ", blob)
	case 14, 15:
		return fmt.Sprint("pin ", at, " ", blob)
	case 16:
		return fmt.Sprint("image ", at, " ", blob)
	case 17:
		return fmt.Sprint("tag ", at, " ", name, " ", blob)
	case 18:
		return fmt.Sprint("untag ", at, " ", name)
	case 19:
		return fmt.Sprint(pick(r, "mark ", "condemn "), at)
	case 20:
		return "who"
	case 21:
		return fmt.Sprint("at ", pick(r, at, other), " ", name)
	case 22:
		return fmt.Sprint("done ", pick(r, at, other))
	}
	return "audit"
}

// oddLine is a line with something wrong in it, or with more blanks than it needs.
func oddLine(r *rand.Rand, line string) string {
	words := strings.Fields(line)
	if len(words) == 0 {
		return line
	}
	place := r.IntN(len(words))
	switch r.IntN(9) {
	case 0:
		return "  " + strings.Join(words, "   ") + " "
	case 1:
		return pick(r, "", " ", "      ")
	case 2:
		return line + " " + pick(r, words...)
	case 3:
		return strings.Join(append(words[:place], words[place+1:]...), " ")
	case 4:
		words[place] = pick(r, "01", "1001", "X", "-", "", "\t", "nodes", "1000")
	case 5:
		words[place] += pick(r, "\t", "\r", "0", "A", ".")
	case 6:
		words[place] = strings.ToUpper(words[place])
	case 7:
		return spoiledText(r, line)
	case 8:
		return fmt.Sprint("nodes ", r.IntN(9), " ", r.IntN(9))
	}
	return strings.Join(words, " ")
}

// randomPiece are lines of which single ones would seldom come one behind the other.
func randomPiece(r *rand.Rand, leader int) []string {
	switch r.IntN(4) {
	case 0:
		return []string{fmt.Sprint("pin ", leader, " x"), fmt.Sprint("image ", leader, " x"), fmt.Sprint("tag ", leader, " app v1 x"), fmt.Sprint("beat ", leader), "run 100", fmt.Sprint("beat ", leader), "run 100", fmt.Sprint("at ", leader, " app v1")}
	case 1:
		return []string{"nodes 3 3", "start 1", "run 99", "start 2", "deliver 10", "deliver 11", "who"}
	case 2:
		var starts []string
		for range 40 {
			starts = append(starts, fmt.Sprint("start ", 1+r.IntN(7)))
		}
		return starts
	}
	return nil
}

func randomScript(r *rand.Rand) string {
	n := 1 + r.IntN(7)
	leader := 1 + r.IntN(n)
	var lines []string
	if r.IntN(12) > 0 {
		lines = append(lines, fmt.Sprint("nodes ", n, " ", max(1, n-r.IntN(2))), fmt.Sprint("start ", leader), "run 100")
	}
	lines = append(lines, randomPiece(r, leader)...)
	odd := pick(r, 0, 5, 25)
	for range r.IntN(60 - len(lines)) {
		line := randomLine(r, n, leader)
		if r.IntN(100) < odd {
			line = strings.ReplaceAll(oddLine(r, line), "\n", "")
		}
		lines = append(lines, line)
	}
	text := ""
	for _, line := range lines {
		text += line + "\n"
	}
	switch r.IntN(30) {
	case 0:
		text += strings.Repeat("\n", r.IntN(20))
	case 1:
		text += "who"
	case 2:
		text += strings.Repeat(" ", max(0, 5998-len(text))) + strings.Repeat(" ", r.IntN(4)) + "\n"
	}
	return text
}

// Promise 20.
func TestScriptsAtRandom(t *testing.T) {
	seen := map[string]int{}
	for seed := range uint64(400) {
		r := rand.New(rand.NewPCG(20, seed))
		text := randomScript(r)
		said := impl.RunScript(text)
		if want := slowRunScript(text); said != want {
			t.Fatalf("seed %d: %q says %q, not %q", seed, text, said, want)
		}
		for line := range strings.Lines(said) {
			line = strings.TrimSpace(line)
			seen[line]++
			seen[strings.Fields(line)[0]]++
			if strings.HasPrefix(line, "leader") && strings.Count(line, " ") > 1 {
				seen["several leaders"]++
			}
		}
		if seed%10 == 0 && said != "too long\n" {
			checkBeginnings(t, text)
		}
		if end := text + "audit\n"; said != "too long\n" {
			switch got := impl.RunScript(end); got {
			case said + "verdict 0\n":
				seen["sound at the end"]++
			case said + "none\n":
				seen["none at the end"]++
			case "too long\n":
				if strings.Count(end, "\n") <= 60 && len(end) <= 6000 {
					t.Fatalf("seed %d: %q is not too long", seed, end)
				}
			default:
				t.Fatalf("seed %d: %q says %q", seed, end, got)
			}
		}
	}
	for what, least := range map[string]int{"ok": 1000, "no 3": 50, "no 4": 50, "no 5": 200, "no": 50, "yes": 30, "ran": 500, "ran 200": 1, "leader": 100, "several leaders": 1, "done": 100, "verdict 0": 100, "what": 200, "none": 100, "too": 10, "sound at the end": 300, "none at the end": 10} {
		if seen[what] < least {
			t.Errorf("%s: only %d", what, seen[what])
		}
	}
	for what := range seen {
		if strings.HasPrefix(what, "verdict ") && what != "verdict 0" {
			t.Errorf("%s: %d", what, seen[what])
		}
	}
}
