package run_test

import (
	"slices"
	"strings"
	"testing"

	"pulsehorn/run"
)

// longest is how many bytes a text may have.
const longest = 3000

// answers checks what a text is answered, a line each.
func answers(t *testing.T, text string, want ...string) {
	t.Helper()
	whole := ""
	for _, line := range want {
		whole += line + "\n"
	}
	if got := run.Run(text); got != whole {
		t.Errorf("Run of %q: %q, want %q", short(text), short(got), short(whole))
	}
}

// short is as much of a text as helps to read a fault.
func short(text string) string {
	return text[:min(len(text), 400)]
}

// asked is a line, and what it is answered.
type asked struct{ line, want string }

// eachAndAll checks lines alone, with byte 10 behind it and without, and then one behind the other.
func eachAndAll(t *testing.T, l []asked) {
	t.Helper()
	var lines, want []string
	for _, a := range l {
		answers(t, a.line+"\n", a.want)
		if a.line != "" {
			answers(t, a.line, a.want)
		}
		lines, want = append(lines, a.line), append(want, a.want)
	}
	for at := 0; at < len(lines); at += 40 {
		end := min(at+40, len(lines))
		answers(t, strings.Join(lines[at:end], "\n")+"\n", want[at:end]...)
		back := slices.Clone(lines[at:end])
		slices.Reverse(back)
		wantBack := slices.Clone(want[at:end])
		slices.Reverse(wantBack)
		answers(t, strings.Join(back, "\n")+"\n", wantBack...)
	}
}

// allBad checks that lines are answered so, each alone and all of them, and that none changes the tank.
func allBad(t *testing.T, lines []string) {
	t.Helper()
	var l []asked
	for _, line := range lines {
		l = append(l, asked{line, "bad"})
		answers(t, "turn 90\n"+line+"\nmay\nturn 7\n"+line+"\n"+line+"\nmay\n", "10", "bad", "30", "23", "bad", "bad", "43")
	}
	eachAndAll(t, l)
}

// some makes numbers from low to high that go up and down without a rule that a desk could follow.
func some(low, high, many int, seed uint32) []int {
	l := make([]int, many)
	for i := range l {
		seed = seed*1664525 + 1013904223
		l[i] = low + int(seed>>8)%(high-low+1)
	}
	return l
}
