package run_test

import (
	"fmt"
	"strings"
	"testing"

	"pulsehorn/run"
)

// TestTankIsFullAtFirst: nothing can come to it at its first turn.
func TestTankIsFullAtFirst(t *testing.T) {
	answers(t, "may\nturn 0\nturn 0\nmay\n", "100", "100", "100", "100")
	answers(t, "turn 1\nmay\nturn 1\nmay\n", "99", "100", "99", "100")
	answers(t, "turn 100\n", "0")
	answers(t, "turn 101\nturn 100\n", "ErrLow", "0")
}

// TestTwentyComeEachTurn, ahead of what goes, till there are 100.
func TestTwentyComeEachTurn(t *testing.T) {
	answers(t, "turn 100\nturn 0\nturn 0\nturn 0\nturn 0\nturn 0\nturn 0\nmay\n", "0", "20", "40", "60", "80", "100", "100", "100")
	answers(t, "turn 100\nturn 20\nturn 20\nturn 21\nturn 19\nturn 21\nturn 0\n", "0", "0", "0", "ErrLow", "1", "0", "20")
	answers(t, "turn 90\nturn 5\nturn 41\nturn 40\n", "10", "25", "4", "ErrLow")
	answers(t, "turn 19\nturn 0\nturn 20\nturn 0\nturn 21\nturn 0\n", "81", "100", "80", "100", "79", "99")
}

// TestMayChangesNothing: it tells what a turn would have, and nothing comes by it.
func TestMayChangesNothing(t *testing.T) {
	answers(t, "turn 100\nmay\nmay\nmay\nturn 0\nmay\nmay\nturn 40\nmay\n", "0", "20", "20", "20", "20", "40", "40", "0", "20")
}

// TestRefusedTurn: where there are not so many, nothing comes, either.
func TestRefusedTurn(t *testing.T) {
	answers(t, "turn 100\nturn 21\nturn 21\nturn 9999\nmay\nturn 20\n", "0", "ErrLow", "ErrLow", "ErrLow", "20", "0")
	answers(t, "turn 70\nturn 51\nmay\nturn 51\nturn 50\nturn 20\n", "30", "ErrLow", "50", "ErrLow", "0", "0")
}

// TestOtherLinesLeaveTheTank: each kind of line, each error and each bad one.
func TestOtherLinesLeaveTheTank(t *testing.T) {
	for _, a := range []asked{
		{"count 2 2", "8"}, {"count 7 0", "ErrRange"}, {"rank 1", "1"}, {"rank 9", "ErrRange"}, {"rank 8 8", "ErrFull"}, {"row 1 1 1", "1"}, {"row 1 1 2", "ErrRange"},
		{"near 20 1", "ErrRange"}, {"near 1 0", "ErrNone"}, {"near 1 2", "1"}, {"gain 20", "18 22"}, {"gain 8001", "ErrRange"}, {"turn 51", "ErrLow"}, {"may", "50"},
		{"turn", "bad"}, {"turn 1 1", "bad"}, {"turn -1", "bad"}, {"turn 01", "bad"}, {"turn 1 ", "bad"}, {" turn 1", "bad"}, {"turn  1", "bad"}, {"Turn 1", "bad"},
		{"turn 10000", "bad"}, {"turn +1", "bad"}, {"turn -0", "bad"}, {"turn 1x", "bad"}, {"turn 1\r", "bad"}, {"turn\t1", "bad"}, {"may 1", "bad"}, {"", "bad"},
	} {
		// 30 are there, so that 50 may go, before as behind.
		answers(t, "turn 70\n"+strings.Repeat(a.line+"\n", 3)+"may\nturn 1\n", "30", a.want, a.want, a.want, "50", "49")
	}
}

// TestEachTextHasItsOwnTank: what went in one is there in the next.
func TestEachTextHasItsOwnTank(t *testing.T) {
	for range 3 {
		answers(t, "turn 100\nturn 20\nmay\n", "0", "0", "20")
		answers(t, "may\nturn 100\n", "100", "0")
		answers(t, "turn 101\n", "ErrLow")
		answers(t, "turn 64", "36")
		answers(t, "turn 64", "36")
	}
}

// TestTurnsInARow holds many turns, up to the longest text, against a tank by hand.
func TestTurnsInARow(t *testing.T) {
	for seed := range uint32(300) {
		has := 100
		text := ""
		var want []string
		for _, bits := range some(0, []int{5, 25, 50, 110}[seed%4], 300, seed) {
			text += fmt.Sprintf("turn %d\nmay\n", bits)
			if there := min(has+20, 100); bits > there {
				want = append(want, "ErrLow")
			} else {
				has = there - bits
				want = append(want, fmt.Sprint(has))
			}
			want = append(want, fmt.Sprint(min(has+20, 100)))
			if len(text) > longest-40 {
				break
			}
		}
		answers(t, text, want...)
	}
}

// TestNeverMoreThanCame: of turns in a row no more goes than there was, and came.
func TestNeverMoreThanCame(t *testing.T) {
	for each := range 102 {
		text := strings.Repeat(fmt.Sprintf("turn %d\n", each), 30)
		went := 0
		for i, line := range strings.Split(strings.TrimSuffix(run.Run(text), "\n"), "\n") {
			if line != "ErrLow" {
				went += each
			}
			if most := 100 + 20*i; went > most {
				t.Errorf("turn %d, %d times: %d went, of %d", each, i+1, went, most)
			}
		}
	}
}
