package run_test

import (
	"fmt"
	"regexp"
	"slices"
	"strconv"
	"strings"
	"testing"

	"pulsehorn/run"
)

// model is what a desk is by the words of the chapters: how many there are in the tank.
type model struct{ has int }

func newModel() *model { return &model{has: 100} }

const (
	above  = ` (?:0|[1-9][0-9]{0,3})`
	either = ` (?:0|-?[1-9][0-9]{0,3})`
)

// form of the lines that are read.
var form = regexp.MustCompile(`\A(?:count` + above + above + `|rank(?:` + either + `)+|row` + above + above + above + `|near` + above + `(?:` + either + `)+|gain` + above + `|turn` + above + `|may)\z`)

func (m *model) answer(line string) string {
	if !form.MatchString(line) {
		return "bad"
	}
	l := strings.Split(line, " ")
	var n []int
	for _, word := range l[1:] {
		number, err := strconv.Atoi(word)
		if err != nil {
			panic(err)
		}
		n = append(n, number)
	}
	switch l[0] {
	case "count":
		return countBy(n[0], n[1])
	case "rank":
		return rankBy(n)
	case "row":
		return rowBy(n[0], n[1], n[2])
	case "near":
		return nearBy(n[1:], n[0])
	case "gain":
		return gainBy(n[0])
	case "turn":
		return m.turn(n[0])
	}
	return fmt.Sprint(min(m.has+20, 100))
}

func (m *model) turn(bits int) string {
	there := min(m.has+20, 100)
	if bits > there {
		return "ErrLow"
	}
	m.has = there - bits
	return fmt.Sprint(m.has)
}

// made has the rows that were asked for, by how many numbers and pulses they have.
var made = map[[2]int][][]int{}

// rows of n numbers and k pulses, in their order, each of them written out.
func rows(n, k int) [][]int {
	if l, ok := made[[2]int{n, k}]; ok {
		return l
	}
	var l [][]int
	if n == 0 && k == 0 {
		l = [][]int{nil}
	}
	for first := -k; first <= k && n > 0; first++ {
		for _, rest := range rows(n-1, k-max(first, -first)) {
			l = append(l, append([]int{first}, rest...))
		}
	}
	made[[2]int{n, k}] = l
	return l
}

func countBy(n, k int) string {
	if n > 6 || k > 8 {
		return "ErrRange"
	}
	return fmt.Sprint(len(rows(n, k)))
}

func rowBy(n, k, rank int) string {
	if n > 6 || k > 8 || rank >= len(rows(n, k)) {
		return "ErrRange"
	}
	if n == 0 {
		return "-"
	}
	return words(rows(n, k)[rank])
}

// loudOf numbers, and the greatest distance from 0.
func loudOf(l []int) (loud, greatest int) {
	for _, n := range l {
		loud += max(n, -n)
		greatest = max(greatest, n, -n)
	}
	return loud, greatest
}

func rankBy(row []int) string {
	k, greatest := loudOf(row)
	switch {
	case len(row) > 6:
		return "ErrFull"
	case greatest > 8:
		return "ErrRange"
	case k > 8:
		return "ErrFull"
	}
	return fmt.Sprint(slices.IndexFunc(rows(len(row), k), func(other []int) bool { return slices.Equal(other, row) }))
}

func nearBy(row []int, k int) string {
	loud, greatest := loudOf(row)
	switch {
	case len(row) > 6:
		return "ErrFull"
	case greatest > 1000 || k > 8:
		return "ErrRange"
	case loud == 0 && k > 0:
		return "ErrNone"
	}
	p := make([]int, len(row))
	if k > 0 {
		spread(p, row, k, loud)
	}
	return words(p)
}

// spread gives what is left over one by one, to the greatest rest that has got none.
func spread(p, row []int, k, loud int) {
	rests := make([]int, len(row))
	left := k
	for i, n := range row {
		p[i], rests[i] = k*max(n, -n)/loud, k*max(n, -n)%loud
		left -= p[i]
	}
	for range left {
		at := slices.Index(rests, slices.Max(rests))
		p[at]++
		rests[at] = -1
	}
	for i, n := range row {
		if n < 0 {
			p[i] = -p[i]
		}
	}
}

func gainBy(n int) string {
	if n > 8000 {
		return "ErrRange"
	}
	if n == 0 {
		return "0 0"
	}
	m, power := 0, 1
	for 2*power <= n {
		m, power = m+1, 2*power
	}
	q := 0
	for (q+1)*power <= 4*(n-power) {
		q++
	}
	return fmt.Sprintf("%d %d", 1+4*m+q, power+(2*q+1)*power/8)
}

// byWords is what a text is answered by the words of the chapters.
func byWords(text string) string {
	if len(text) > longest {
		return "too long\n"
	}
	pieces := strings.Split(text, "\n")
	if pieces[len(pieces)-1] == "" {
		pieces = pieces[:len(pieces)-1]
	}
	m, all := newModel(), ""
	for _, line := range pieces {
		all += m.answer(line) + "\n"
	}
	return all
}

// lineOf has a line of one of the kinds, with numbers of which most are in bounds.
func lineOf(seed uint32) string {
	r := some(0, 9999, 6, seed)
	switch r[0] % 8 {
	case 0:
		return fmt.Sprintf("count %d %d", r[1]%8, r[2]%10)
	case 1:
		return "rank " + words(some(-r[1]%5, r[2]%5, 1+r[3]%7, seed+1))
	case 2:
		return fmt.Sprintf("row %d %d %d", r[1]%7, r[2]%9, r[3]%[]int{1, 3, 30, 300, 9999}[r[4]%5])
	case 3:
		bound := []int{0, 1, 9, 1000, 1003}[r[3]%5]
		return fmt.Sprintf("near %d %s", r[1]%10, words(some(-bound, bound, 1+r[2]%7, seed+2)))
	case 4:
		return fmt.Sprintf("gain %d", r[1]%[]int{10, 100, 1000, 9999}[r[2]%4])
	case 5, 6:
		return fmt.Sprintf("turn %d", r[1]%[]int{10, 30, 50, 103}[r[2]%4])
	}
	return "may"
}

// spoilt has a line with a byte more, one less, or another one.
func spoilt(line string, seed uint32) string {
	r := some(0, 9999, 4, seed)
	at := r[0] % len(line)
	likely := "  -+0019xXay\t\r\x00\xff\n"
	b := string([]byte{likely[r[1]%len(likely)]})
	if r[2]%3 == 0 {
		b = string([]byte{byte(r[2])})
	}
	switch r[3] % 3 {
	case 0:
		return line[:at] + b + line[at:]
	case 1:
		return line[:at] + line[at+1:]
	}
	return line[:at] + b + line[at+1:]
}

// textOf so many lines, some of them spoilt; behind the last one there is byte 10 or not.
func textOf(seed uint32, many int) string {
	var l []string
	for _, n := range some(0, 1<<20, many, seed) {
		line := lineOf(uint32(n))
		if n%5 == 0 {
			line = spoilt(line, uint32(n)*31)
		}
		l = append(l, line)
	}
	return strings.Join(l, "\n") + "\n"[:seed%2]
}

// TestTextsWithoutARule holds them against the words, and counts what was told.
func TestTextsWithoutARule(t *testing.T) {
	told := map[string]int{}
	for seed := range uint32(2500) {
		text := textOf(seed, 1+int(seed)%330)
		got, want := run.Run(text), byWords(text)
		if got != want {
			t.Fatalf("Run of %q: %q, want %q", text, got, want)
		}
		for _, line := range strings.Split(got, "\n") {
			told[line]++
		}
	}
	for _, line := range []string{"bad", "ErrRange", "ErrFull", "ErrNone", "ErrLow", "-", "too long", "0", "100", "20", "0 0"} {
		if told[line] < 50 {
			t.Errorf("only %d were %q", told[line], line)
		}
	}
}

// FuzzRun holds any text against the words.
func FuzzRun(f *testing.F) {
	for seed := range uint32(20) {
		f.Add(textOf(seed, 12))
	}
	f.Fuzz(func(t *testing.T, text string) {
		if got, want := run.Run(text), byWords(text); got != want {
			t.Errorf("Run of %q: %q, want %q", short(text), short(got), short(want))
		}
	})
}
