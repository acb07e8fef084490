package run_test

import (
	"fmt"
	"strings"
	"testing"

	"pulsehorn/count"
	"pulsehorn/gain"
	"pulsehorn/near"
	"pulsehorn/pulse"
)

func TestCount(t *testing.T) {
	eachAndAll(t, []asked{
		{"count 0 0", "1"}, {"count 0 1", "0"}, {"count 0 8", "0"}, {"count 1 0", "1"}, {"count 1 1", "2"}, {"count 1 8", "2"},
		{"count 2 1", "4"}, {"count 2 2", "8"}, {"count 2 8", "32"}, {"count 3 2", "18"}, {"count 6 0", "1"}, {"count 6 1", "12"},
		{"count 6 8", "20256"}, {"count 3 4", "66"}, {"count 5 2", "50"}, {"count 4 6", "608"},
		{"count 7 0", "ErrRange"}, {"count 0 9", "ErrRange"}, {"count 7 9", "ErrRange"}, {"count 6 9", "ErrRange"}, {"count 7 8", "ErrRange"},
		{"count 9999 0", "ErrRange"}, {"count 0 9999", "ErrRange"}, {"count 9999 9999", "ErrRange"}, {"count 10 10", "ErrRange"},
	})
}

func TestRank(t *testing.T) {
	eachAndAll(t, []asked{
		{"rank 0", "0"}, {"rank 1", "1"}, {"rank -1", "0"}, {"rank 8", "1"}, {"rank -8", "0"}, {"rank 0 0", "0"}, {"rank 0 0 0 0 0 0", "0"},
		{"rank -1 0", "0"}, {"rank 0 -1", "1"}, {"rank 0 1", "2"}, {"rank 1 0", "3"}, {"rank 3 -3", "17"}, {"rank 1 1 1 2", "280"},
		{"rank 8 0 0 0 0 0", "20255"}, {"rank -8 0 0 0 0 0", "0"}, {"rank 0 0 0 0 0 8", "10128"}, {"rank 0 0 0 0 0 -8", "10127"},
		{"rank 9", "ErrRange"}, {"rank -9", "ErrRange"}, {"rank 9999", "ErrRange"}, {"rank -9999", "ErrRange"}, {"rank 0 0 0 0 0 9", "ErrRange"},
		{"rank 8 1", "ErrFull"}, {"rank 4 -5", "ErrFull"}, {"rank -1 -8", "ErrFull"}, {"rank 2 2 2 2 2 2", "ErrFull"}, {"rank 8 8 8 8 8 8", "ErrFull"},
		{"rank 0 0 0 0 0 0 0", "ErrFull"}, {"rank 1 0 0 0 0 0 0 0", "ErrFull"},
		// Too many numbers are told ahead of one that is too great, and that ahead of too many pulses.
		{"rank 9 0 0 0 0 0 0", "ErrFull"}, {"rank 8 8 9", "ErrRange"}, {"rank -9 8 8", "ErrRange"},
	})
}

func TestRow(t *testing.T) {
	eachAndAll(t, []asked{
		{"row 0 0 0", "-"}, {"row 1 0 0", "0"}, {"row 6 0 0", "0 0 0 0 0 0"}, {"row 1 1 0", "-1"}, {"row 1 1 1", "1"}, {"row 1 8 0", "-8"}, {"row 1 8 1", "8"},
		{"row 2 1 0", "-1 0"}, {"row 2 1 1", "0 -1"}, {"row 2 1 2", "0 1"}, {"row 2 1 3", "1 0"}, {"row 2 8 7", "-4 -4"}, {"row 2 8 31", "8 0"},
		{"row 5 8 4", "-7 0 0 0 -1"}, {"row 6 1 4", "0 0 0 0 -1 0"}, {"row 6 8 0", "-8 0 0 0 0 0"}, {"row 6 8 9999", "0 0 0 -8 0 0"},
		{"row 0 0 1", "ErrRange"}, {"row 0 1 0", "ErrRange"}, {"row 0 8 0", "ErrRange"}, {"row 1 0 1", "ErrRange"}, {"row 1 1 2", "ErrRange"},
		{"row 2 1 4", "ErrRange"}, {"row 2 8 32", "ErrRange"}, {"row 5 8 9999", "ErrRange"}, {"row 7 0 0", "ErrRange"}, {"row 0 9 0", "ErrRange"},
		{"row 6 9 0", "ErrRange"}, {"row 9999 9999 9999", "ErrRange"}, {"row 7 9 0", "ErrRange"}, {"row 6 0 1", "ErrRange"},
	})
}

func TestNear(t *testing.T) {
	eachAndAll(t, []asked{
		{"near 1 5", "1"}, {"near 8 5", "8"}, {"near 8 -5", "-8"}, {"near 8 1000", "8"}, {"near 8 -1000", "-8"}, {"near 1 1", "1"}, {"near 1 -1", "-1"},
		{"near 0 0", "0"}, {"near 0 5 -5", "0 0"}, {"near 0 0 0 0 0 0 0", "0 0 0 0 0 0"}, {"near 1 5 5", "1 0"}, {"near 1 -5 5", "-1 0"}, {"near 2 5 5", "1 1"},
		{"near 3 5 -5", "2 -1"}, {"near 1 4 5", "0 1"}, {"near 2 8 929 4", "0 2 0"}, {"near 7 -9 -800 989 -8", "0 -3 4 0"}, {"near 5 -610 875", "-2 3"},
		{"near 8 1 1 1 1 1 1", "2 2 1 1 1 1"}, {"near 8 1000 -1000 1000 -1000 1000 -1000", "2 -2 1 -1 1 -1"}, {"near 8 0 0 0 0 0 -1", "0 0 0 0 0 -8"},
		{"near 0 0 0 0 0 0 0 0", "ErrFull"}, {"near 1 1 1 1 1 1 1 1", "ErrFull"}, {"near 9 1 1 1 1 1 1 1", "ErrFull"}, {"near 1 1001 1 1 1 1 1 1", "ErrFull"},
		{"near 1 1001", "ErrRange"}, {"near 1 -1001", "ErrRange"}, {"near 0 9999", "ErrRange"}, {"near 0 -9999", "ErrRange"}, {"near 1 0 0 1001", "ErrRange"},
		{"near 9 1", "ErrRange"}, {"near 9999 1", "ErrRange"}, {"near 9 1001", "ErrRange"}, {"near 9 0", "ErrRange"},
		{"near 1 0", "ErrNone"}, {"near 8 0", "ErrNone"}, {"near 8 0 0 0 0 0 0", "ErrNone"},
	})
}

func TestGain(t *testing.T) {
	eachAndAll(t, []asked{
		{"gain 0", "0 0"}, {"gain 1", "1 1"}, {"gain 2", "5 2"}, {"gain 3", "7 3"}, {"gain 4", "9 4"}, {"gain 5", "10 5"}, {"gain 7", "12 7"}, {"gain 8", "13 9"},
		{"gain 9", "13 9"}, {"gain 10", "14 11"}, {"gain 17", "17 18"}, {"gain 29", "20 30"}, {"gain 37", "21 36"}, {"gain 4095", "48 3840"}, {"gain 4096", "49 4608"},
		{"gain 7003", "51 6656"}, {"gain 7167", "51 6656"}, {"gain 7168", "52 7680"}, {"gain 7999", "52 7680"}, {"gain 8000", "52 7680"},
		{"gain 8001", "ErrRange"}, {"gain 8192", "ErrRange"}, {"gain 9999", "ErrRange"},
	})
}

func TestTurnAlone(t *testing.T) {
	for bits := range 101 {
		answers(t, fmt.Sprintf("turn %d\n", bits), fmt.Sprint(100-bits))
	}
	for _, bits := range []int{101, 102, 120, 121, 200, 1000, 9999} {
		answers(t, fmt.Sprintf("turn %d\n", bits), "ErrLow")
	}
}

func TestMayAlone(t *testing.T) {
	answers(t, "may\n", "100")
	answers(t, "may", "100")
	answers(t, strings.Repeat("may\n", 99), strings.Split(strings.Repeat("100 ", 98)+"100", " ")...)
}

// TestSevenBehindEachOther has each of the lines right behind each of the others.
func TestSevenBehindEachOther(t *testing.T) {
	l := []asked{{"count 2 1", "4"}, {"rank 1 0", "3"}, {"row 2 1 2", "0 1"}, {"near 3 5 -5", "2 -1"}, {"gain 37", "21 36"}, {"turn 0", "100"}, {"may", "100"},
		{"count 7 0", "ErrRange"}, {"rank 8 1", "ErrFull"}, {"row 0 0 0", "-"}, {"near 1 0", "ErrNone"}, {"gain 8001", "ErrRange"}, {"turn 101", "ErrLow"}, {"may 1", "bad"}}
	for _, a := range l {
		for _, b := range l {
			answers(t, a.line+"\n"+b.line+"\n"+a.line+"\n", a.want, b.want, a.want)
			answers(t, a.line+"\n"+b.line, a.want, b.want)
		}
	}
}

// byChapter is what a line is answered, of what its chapter tells.
func byChapter(err error, numbers ...int) string {
	if err != nil {
		return err.Error()
	}
	if len(numbers) == 0 {
		return "-"
	}
	return words(numbers)
}

// words of numbers, with a blank between.
func words(numbers []int) string {
	return strings.Trim(fmt.Sprint(numbers), "[]")
}

// TestAsTheChapters holds lines against the chapters that answer them.
func TestAsTheChapters(t *testing.T) {
	for n := range 9 {
		for k := range 11 {
			many, err := count.Of(n, k)
			answers(t, fmt.Sprintf("count %d %d", n, k), byChapter(err, many))
			for _, rank := range append(some(0, 9999, 12, uint32(n*k)), 0, 1, many/2, many-1, many, many+1) {
				if rank < 0 || rank > 9999 {
					continue
				}
				row, err := pulse.Of(n, k, rank)
				answers(t, fmt.Sprintf("row %d %d %d", n, k, rank), byChapter(err, row...))
			}
		}
	}
	for n := range 10000 {
		index, err := gain.Index(n)
		value, _ := gain.Value(index)
		answers(t, fmt.Sprintf("gain %d", n), byChapter(err, index, value))
	}
	for seed := range uint32(4000) {
		bound := []int{1, 2, 3, 8, 9, 1000, 1001, 9999}[seed%8]
		row := some(-bound, bound, 1+int(seed/8)%8, seed)
		rank, err := pulse.Rank(row)
		answers(t, "rank "+words(row), byChapter(err, rank))
		k := int(seed/64) % 10
		pulses, err := near.Of(row, k)
		answers(t, fmt.Sprintf("near %d %s", k, words(row)), byChapter(err, pulses...))
	}
}

// TestThereAndBack asks for each row by its rank, and then for the rank of that row.
func TestThereAndBack(t *testing.T) {
	for n := 1; n <= 6; n++ {
		for k := range 9 {
			for i, row := range rows(n, k) {
				if i > 9999 || i%7 != 0 && i > 500 {
					continue
				}
				answers(t, fmt.Sprintf("row %d %d %d\nrank %s\n", n, k, i, words(row)), words(row), fmt.Sprint(i))
			}
		}
	}
}
