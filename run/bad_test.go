package run_test

import (
	"fmt"
	"strings"
	"testing"
)

// right has lines that are read, of each kind; each blank and number of them is one that may be made wrong.
func right() []asked {
	return []asked{
		{"count 3 4", "66"}, {"count 7 9", "ErrRange"}, {"rank 3", "1"}, {"rank -3 1", "2"}, {"rank 1 -1 3", "67"}, {"rank 9 1", "ErrRange"},
		{"row 2 8 7", "-4 -4"}, {"row 0 1 7", "ErrRange"}, {"near 5 -610", "-5"}, {"near 5 -610 875", "-2 3"}, {"near 3 181 9 893 -5", "1 0 2 0"}, {"near 1 0", "ErrNone"},
		{"gain 37", "21 36"}, {"gain 9000", "ErrRange"}, {"turn 0", "100"}, {"turn 101", "ErrLow"}, {"may", "100"},
	}
}

func TestRightOnes(t *testing.T) {
	eachAndAll(t, right())
}

func TestTooFewWords(t *testing.T) {
	allBad(t, []string{"count", "count 1", "rank", "row", "row 1", "row 1 1", "near", "near 1", "near 0", "gain", "turn"})
}

func TestTooManyWords(t *testing.T) {
	allBad(t, []string{
		"count 1 1 1", "count 1 1 1 1", "row 1 1 1 1", "row 1 1 1 1 1", "gain 1 1", "gain 0 0", "turn 1 1", "turn 0 0", "may 0", "may 1", "may may", "may 1 1",
		"count 1 1 x", "row 1 1 1 -1", "gain 1 -1", "turn 1 x", "may -", "may x", "count 1 1 count 1 1",
	})
	// Of these there may be as many as one likes.
	for many := 1; many <= 1497; many++ {
		rank, pulses := "0", strings.TrimSuffix(strings.Repeat("0 ", many), " ")
		if many > 6 {
			rank, pulses = "ErrFull", "ErrFull"
		}
		answers(t, "rank"+strings.Repeat(" 0", many), rank)
		answers(t, "near 0"+strings.Repeat(" 0", many), pulses)
	}
}

// TestAWordTooManyOrTooFew takes one away from lines that are read, or lays one behind.
func TestAWordTooManyOrTooFew(t *testing.T) {
	for _, a := range right() {
		l := strings.Split(a.line, " ")
		if l[0] == "rank" || l[0] == "near" {
			continue
		}
		allBad(t, []string{a.line + " 0", a.line + " 1 1", a.line + " -1", l[0] + " 0 " + strings.Join(l[1:], " ")})
		if len(l) > 1 {
			allBad(t, []string{strings.Join(l[:len(l)-1], " "), l[0], strings.Join(l[1:], " ")})
		}
	}
}

// TestBlanks has one more at each place, one ahead, one behind, and each one taken away.
func TestBlanks(t *testing.T) {
	for _, a := range right() {
		lines := []string{" " + a.line, a.line + " ", " " + a.line + " ", "  " + a.line, a.line + "  "}
		for at := range len(a.line) {
			if a.line[at] == ' ' {
				lines = append(lines, a.line[:at]+" "+a.line[at:], a.line[:at]+"  "+a.line[at:])
			}
		}
		lines = append(lines, strings.Replace(a.line, " ", "", 1)+"x", strings.ReplaceAll(a.line, " ", "")+"0")
		allBad(t, lines)
	}
	allBad(t, []string{"", " ", "  ", "   ", "count1 1", "rank1", "row1 1 1", "near1 1", "gain1", "turn1", "m ay", "ma y", "tu rn 1"})
}

// TestOtherBytesForTheBlank has each of them at each blank.
func TestOtherBytesForTheBlank(t *testing.T) {
	for _, a := range right() {
		for at := range len(a.line) {
			if a.line[at] != ' ' {
				continue
			}
			for b := range 256 {
				line := a.line[:at] + string([]byte{byte(b)}) + a.line[at+1:]
				// A digit, a line's end, or what was there, may make another line that is read.
				if b != ' ' && b != '\n' && (b < '0' || b > '9') {
					answers(t, line+"\nmay\n", "bad", "100")
				}
			}
			allBad(t, []string{
				a.line[:at] + "\t" + a.line[at+1:], a.line[:at] + "\u00a0" + a.line[at+1:], a.line[:at] + "\u2003" + a.line[at+1:], a.line[:at] + "," + a.line[at+1:],
				a.line[:at] + "\r" + a.line[at+1:], a.line[:at] + " \t" + a.line[at+1:], a.line[:at] + "\v " + a.line[at+1:], a.line[:at] + "\x00" + a.line[at+1:],
			})
		}
	}
}

// TestBytesAheadAndBehind has each of them at both ends of lines that are read.
func TestBytesAheadAndBehind(t *testing.T) {
	for _, a := range right() {
		for b := range 256 {
			if b == '\n' {
				answers(t, "\n"+a.line, "bad", a.want)
				continue
			}
			answers(t, string([]byte{byte(b)})+a.line+"\nmay", "bad", "100")
			// A digit behind a number makes another one.
			if b < '0' || b > '9' || a.line == "may" {
				answers(t, a.line+string([]byte{byte(b)})+"\nmay", "bad", "100")
			}
		}
	}
	allBad(t, []string{"\ufeffmay", "may\u00a0", "may\u200b", "may\r", "may\x00", "\x00may", "\xffmay", "may\xff", "\tmay", "may\t"})
}

func TestOtherWords(t *testing.T) {
	lines := []string{
		"x", "x 1", "0", "1", "-1", "-", "1 1", "bits 1 1", "table 1", "check 1", "of 1 1", "far 1 1", "index 1", "value 1", "run 1", "tank", "tank 100", "play", "lose",
		"bad", "too long", "ErrRange", "ErrLow", "OK", "help", "quit", "#", "# may", "//", "counts 1 1", "coun 1 1", "ccount 1 1", "ranks 1", "ran 1", "rows 1 1 1", "ro 1 1 1",
		"nears 1 1", "nea 1 1", "gains 1", "gai 1", "turns 1", "tur 1", "mays", "ma", "m", "mayy", "maymay", "may;may", "turn 1;may", "tnuoc 1 1", "yam",
		"соunt 1 1", "mаy", "ｍａｙ", "ſturn 1", "\"may\"", "'may'", "(may)", "may()", "count(1, 1)", "count=1 1", "count: 1 1",
	}
	for _, a := range right() {
		l := strings.SplitN(a.line, " ", 2)
		rest := strings.TrimPrefix(a.line, l[0])
		lines = append(lines, strings.ToUpper(l[0])+rest, strings.ToUpper(l[0][:1])+l[0][1:]+rest, l[0][:1]+strings.ToUpper(l[0][1:2])+l[0][2:]+rest,
			l[0][:len(l[0])-1]+strings.ToUpper(l[0][len(l[0])-1:])+rest, l[0]+l[0]+rest, l[0][1:]+rest, l[0]+"s"+rest)
	}
	allBad(t, lines)
}

// unread has words that are no number, with a `-` or without.
func unread() []string {
	return []string{
		"", "x", "o", "O", "l", "a", "-a", "x1", "1x", "1x1", "12a", "a12", "1a2", "x-1", "00", "01", "000", "0000", "00000", "007", "0123", "0001", "09999", "-01", "-00", "-007",
		"-0000", "10000", "12345", "99999", "00001", "100000", "123456789", "-10000", "-12345", "-99999", "+1", "+0", "+", "+-1", "-+1", "+9999", "+01", "-0", "-", "--", "--1",
		"--0", "---1", "1-", "1-1", "-1-", "−1", "–1", "1.", ".1", "1.0", "1,0", "1e1", "1E1", "0x1", "0X1", "0b1", "0o1", "1_0", "1_000", "_1", "1_", "-_1", "'1'", "\"1\"",
		"٣", "１", "²", "½", "Ⅳ", "\x001", "1\x00", "\x00", "\xff", "1\xff", "\xff1", "\t1", "1\t", "1\r", "\r", "1\v", "/", ":", "1/", "1:", "/1", ":1", "nil", "NaN", "Inf", "inf",
		"9223372036854775807", "9223372036854775808", "-9223372036854775808", "-9223372036854775809", "18446744073709551616", "18446744073709551617", "4294967297",
		"340282366920938463463374607431768211457", strings.Repeat("9", 400), strings.Repeat("0", 400), "-" + strings.Repeat("1", 400),
	}
}

// withoutSign has numbers that are read only where a `-` is told.
func withoutSign() []string {
	return []string{"-1", "-2", "-8", "-9", "-10", "-99", "-100", "-1000", "-9999"}
}

// placed has a word at a place of a line.
func placed(line string, at int, word string) string {
	l := strings.Split(line, " ")
	l[at] = word
	return strings.Join(l, " ")
}

// signTold tells whether the number at a place of a line may be below 0.
func signTold(line string, at int) bool {
	return strings.HasPrefix(line, "rank ") || strings.HasPrefix(line, "near ") && at > 1
}

func TestNumbersThatCannotBeRead(t *testing.T) {
	for _, a := range right() {
		for at := 1; at <= strings.Count(a.line, " "); at++ {
			var lines []string
			for _, word := range unread() {
				lines = append(lines, placed(a.line, at, word))
			}
			for _, word := range withoutSign() {
				if !signTold(a.line, at) {
					lines = append(lines, placed(a.line, at, word))
				}
			}
			for _, line := range lines {
				answers(t, "turn 50\n"+line+"\nmay\n", "50", "bad", "70")
				answers(t, line, "bad")
			}
		}
	}
}

// TestAFaultBehindAnother: one word that cannot be read is enough, even where a chapter would tell an error.
func TestAFaultBehindAnother(t *testing.T) {
	allBad(t, []string{
		"count 9999 x", "count x 9999", "rank 9999 -0", "rank 1 1 1 1 1 1 1 1 x", "rank -0 9999", "row 9 9 01", "row 9 -1 9", "near 9 1 1 1 1 1 1 1 01", "near 9999 +1",
		"near -1 1 1 1 1 1 1 1 1", "near 1 0 -0", "gain 10000", "gain -9999", "turn 10000", "turn -9999",
	})
}

// TestNumbersThatAreRead has 0, those of one to four digits at their edges, and below 0 where that is told, at each place.
func TestNumbersThatAreRead(t *testing.T) {
	for _, a := range right() {
		for at := 1; at <= strings.Count(a.line, " "); at++ {
			for _, word := range []string{"0", "1", "9", "10", "99", "100", "999", "1000", "1001", "9998", "9999"} {
				readAt(t, a.line, at, word)
				if word != "0" && signTold(a.line, at) {
					readAt(t, a.line, at, "-"+word)
				}
			}
		}
	}
	eachAndAll(t, []asked{
		{"count 0 0", "1"}, {"count 9999 9999", "ErrRange"}, {"rank 0", "0"}, {"rank 9999", "ErrRange"}, {"rank -9999", "ErrRange"}, {"rank 9999 -9999", "ErrRange"},
		{"row 0 0 0", "-"}, {"row 9999 9999 9999", "ErrRange"}, {"row 6 8 9999", "0 0 0 -8 0 0"}, {"near 0 0", "0"}, {"near 9999 9999", "ErrRange"}, {"near 9999 -9999", "ErrRange"},
		{"near 0 -9999", "ErrRange"}, {"gain 0", "0 0"}, {"gain 9999", "ErrRange"}, {"turn 0", "100"}, {"turn 9999", "ErrLow"},
	})
}

// readAt checks that a line with a number at a place is answered as the words say, and not `bad`.
func readAt(t *testing.T, line string, at int, word string) {
	t.Helper()
	line = placed(line, at, word)
	want := newModel().answer(line)
	if want == "bad" {
		t.Fatalf("%q is bad", line)
	}
	answers(t, line, want)
}

// TestEachNumber has every one that there may be, and those around.
func TestEachNumber(t *testing.T) {
	for n := range 12000 {
		turn, below := "ErrLow", "ErrRange"
		switch {
		case n == 0:
			turn, below = "100", "bad"
		case n <= 8:
			turn, below = fmt.Sprint(100-n), "0"
		case n <= 100:
			turn = fmt.Sprint(100 - n)
		case n > 9999:
			turn, below = "bad", "bad"
		}
		answers(t, fmt.Sprintf("turn %d", n), turn)
		answers(t, fmt.Sprintf("rank -%d", n), below)
		answers(t, fmt.Sprintf("turn -%d\ngain -%d\ncount -%d 1\ncount 1 -%d\nnear -%d 1\nrow 1 1 -%d\n", n, n, n, n, n, n), "bad", "bad", "bad", "bad", "bad", "bad")
	}
}
