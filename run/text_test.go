package run_test

import (
	"slices"
	"strings"
	"testing"

	"pulsehorn/api"
	"pulsehorn/run"
)

func TestEmptyText(t *testing.T) {
	if got := run.Run(""); got != "" {
		t.Errorf("Run of nothing: %q", got)
	}
}

// TestLinesAreCutAtByteTen: a last piece that is empty is none, one in the midst is.
func TestLinesAreCutAtByteTen(t *testing.T) {
	answers(t, "\n", "bad")
	answers(t, "\n\n", "bad", "bad")
	answers(t, "\n\n\n", "bad", "bad", "bad")
	answers(t, "may", "100")
	answers(t, "may\n", "100")
	answers(t, "may\n\n", "100", "bad")
	answers(t, "\nmay", "bad", "100")
	answers(t, "\nmay\n", "bad", "100")
	answers(t, "may\nmay", "100", "100")
	answers(t, "may\nmay\n", "100", "100")
	answers(t, "may\n\nmay\n", "100", "bad", "100")
	answers(t, "may\n ", "100", "bad")
	answers(t, "may\n\r", "100", "bad")
	answers(t, "may\rmay", "bad")
	answers(t, "may\r\nmay\n", "bad", "100")
	answers(t, "may\n\rmay\n", "100", "bad")
	answers(t, "may\vmay\fmay\u0085may\u2028may\x00may", "bad")
	answers(t, "turn 1\nturn 2\nturn 3", "99", "98", "97")
}

// TestLinesOfAnyBytes has each byte alone, in a row, and between others.
func TestLinesOfAnyBytes(t *testing.T) {
	all := ""
	for b := range 256 {
		one := string([]byte{byte(b)})
		if b == '\n' {
			continue
		}
		all += one
		answers(t, one, "bad")
		answers(t, one+"\n", "bad")
		answers(t, "may\n"+strings.Repeat(one, 9)+"\nmay", "100", "bad", "100")
		answers(t, "turn"+one+"\n"+one+"turn\nm"+one+"ay", "bad", "bad", "bad")
	}
	answers(t, all, "bad")
	answers(t, all+"\n"+all+"\nmay", "bad", "bad", "100")
	answers(t, strings.Join(strings.Split(all, ""), "\n"), slices.Repeat([]string{"bad"}, len(strings.Split(all, "")))...)
	answers(t, "\x00\n\xff\n\x00\xff\nmay\x00\nmay\xff\n\xc3\x28\n\xed\xa0\x80\n", "bad", "bad", "bad", "bad", "bad", "bad", "bad")
}

func TestLongest(t *testing.T) {
	if api.MaxRun != longest {
		t.Fatalf("MaxRun: %d", api.MaxRun)
	}
	many := func(line string, times int) []string { return slices.Repeat([]string{line}, times) }
	answers(t, strings.Repeat("may\n", 750), many("100", 750)...)
	answers(t, strings.Repeat("\n", 3000), many("bad", 3000)...)
	answers(t, strings.Repeat("x", 3000), "bad")
	answers(t, strings.Repeat("\x00", 3000), "bad")
	answers(t, strings.Repeat("\xff", 3000), "bad")
	answers(t, strings.Repeat(" ", 3000), "bad")
	answers(t, strings.Repeat("é", 1500), "bad")
	answers(t, "may\n"+strings.Repeat("x", 2996), "100", "bad")
	answers(t, strings.Repeat("x", 2995)+"\nmay\n", "bad", "100")
	answers(t, "turn "+strings.Repeat("0", 2995), "bad")
	answers(t, "turn "+strings.Repeat("1", 2995), "bad")
	answers(t, "rank"+strings.Repeat(" 1", 1498), "ErrFull")
	answers(t, "near 1"+strings.Repeat(" 1", 1497), "ErrFull")
	answers(t, "rank"+strings.Repeat(" 1", 1497)+" -", "bad")
	answers(t, strings.Repeat("count 6 8\n", 300), many("20256", 300)...)
	answers(t, strings.Repeat("x", 2998)+"\n", "bad")
	answers(t, strings.Repeat("x", 2999), "bad")
}

func TestTooLong(t *testing.T) {
	for _, text := range []string{
		strings.Repeat("may\n", 750) + "m", strings.Repeat("may\n", 750) + "\n", strings.Repeat("\n", 3001), strings.Repeat("x", 3001), strings.Repeat("x", 3000) + "\n",
		strings.Repeat("\x00", 3001), strings.Repeat("\xff", 3001), strings.Repeat(" ", 3001), strings.Repeat("é", 1500) + "x", strings.Repeat("é", 1501),
		"may\n" + strings.Repeat("x", 2997), "rank " + strings.Repeat(" 1", 1498), "turn 1\n" + strings.Repeat("\n", 2994), strings.Repeat("count 6 8\n", 300) + "\n",
		strings.Repeat("may\n", 751), strings.Repeat("x", 3002), strings.Repeat("may\n", 1500), strings.Repeat("\n", 1<<16), strings.Repeat("may\n", 1<<18), strings.Repeat("a", 1<<22),
	} {
		if got := run.Run(text); got != "too long\n" {
			t.Errorf("Run of %d bytes, %q ..: %q", len(text), text[:9], short(got))
		}
	}
}

// TestFirstLines: cut at each line, with its byte 10 and without, the answers are the beginning of those to all.
func TestFirstLines(t *testing.T) {
	for seed := range uint32(120) {
		text := textOf(seed, 20+int(seed%4)*20)
		whole := run.Run(text)
		ends := endsOf(whole)
		for i, end := range endsOf(text) {
			for _, first := range []string{text[:end], strings.TrimSuffix(text[:end], "\n")} {
				// Without its byte 10 an empty line is none.
				if first == "" || strings.HasSuffix(first, "\n") && end > len(first) {
					continue
				}
				if got := run.Run(first); got != whole[:ends[i]] {
					t.Fatalf("Run of the first %d lines of %q: %q, want %q", i+1, text, got, whole[:ends[i]])
				}
			}
		}
	}
}

// endsOf the lines of a text, behind byte 10; of the last one there may be none.
func endsOf(text string) []int {
	var ends []int
	for i := range len(text) {
		if text[i] == '\n' || i == len(text)-1 {
			ends = append(ends, i+1)
		}
	}
	return ends
}

// TestOneAnswerALine counts them.
func TestOneAnswerALine(t *testing.T) {
	for seed := range uint32(300) {
		text := textOf(seed+7000, 60)
		got := run.Run(text)
		if many := strings.Count(got, "\n"); many != len(endsOf(text)) || got != "" && !strings.HasSuffix(got, "\n") {
			t.Errorf("Run of %q: %d answers, %q", text, many, got)
		}
	}
}

// TestWhateverWasAskedBefore: the same text is answered alike, behind any other, and again.
func TestWhateverWasAskedBefore(t *testing.T) {
	texts := []string{"", "\n", "may\n", "turn 100\n", "turn 100\nturn 20\n", "turn 101\n", "bad\n", strings.Repeat("turn 5\n", 400), strings.Repeat("x", 3001), "row 0 0 0\nmay\n", "turn 1\nturn x\nmay"}
	for seed := range uint32(30) {
		texts = append(texts, textOf(seed+9000, 25))
	}
	var first []string
	for _, text := range texts {
		first = append(first, run.Run(text))
	}
	for i, before := range texts {
		for j, text := range texts {
			if got := run.Run(before); got != first[i] {
				t.Fatalf("Run of %q: %q, then %q", short(before), short(first[i]), short(got))
			}
			if got := run.Run(text); got != first[j] {
				t.Fatalf("Run of %q behind %q: %q, want %q", short(text), short(before), short(got), short(first[j]))
			}
		}
	}
}

// TestAtTheSameTime: texts that are asked at the same time do not hear of each other.
func TestAtTheSameTime(t *testing.T) {
	done := make(chan bool)
	for seed := range uint32(8) {
		go func() {
			text := textOf(seed, 40)
			first, alike := run.Run(text), true
			for range 200 {
				alike = alike && run.Run(text) == first
			}
			done <- alike
		}()
	}
	for range 8 {
		if !<-done {
			t.Error("one was answered otherwise")
		}
	}
}
