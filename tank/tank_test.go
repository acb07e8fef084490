package tank_test

import (
	"math"
	"slices"
	"testing"

	"pulsehorn/api"
	"pulsehorn/plain"
	"pulsehorn/tank"
)

// tankOf has a tank's numbers in their order.
func tankOf(size, each, has int) api.Tank {
	return api.Tank{Size: size, Each: each, Has: has}
}

// repeat makes a list of one number, so many times.
func repeat(n, many int) []int {
	return slices.Repeat([]int{n}, many)
}

// place puts a number into a list of another one.
func place(other, many, at, n int) []int {
	l := repeat(other, many)
	l[at] = n
	return l
}

// behind has numbers behind those of a list, in memory of its own.
func behind(l []int, more ...int) []int {
	return slices.Concat(l, more)
}

// some makes numbers from 0 to most that go up and down without a rule that a tank could follow.
func some(most, many int, seed uint32) []int {
	l := make([]int, many)
	for i := range l {
		seed = seed*1664525 + 1013904223
		l[i] = int(seed>>8) % (most + 1)
	}
	return l
}

// smallTanks has every tank of a small Size that nothing is wrong with.
func smallTanks() []api.Tank {
	var all []api.Tank
	for size := range 7 {
		for each := range size + 1 {
			for has := range size + 1 {
				all = append(all, tankOf(size, each, has))
			}
		}
	}
	return all
}

// greatTanks has tanks at the edges, and others, that nothing is wrong with.
func greatTanks() []api.Tank {
	var all []api.Tank
	for _, size := range []int{100, 348, 999_999, 1_000_000} {
		for _, each := range []int{0, 1, 20, size / 2, size/2 + 1, size - 1, size} {
			for _, has := range []int{0, 1, 20, size / 2, size/2 + 1, size - 1, size} {
				all = append(all, tankOf(size, each, has))
			}
		}
	}
	return all
}

// goodTanks has small ones and great ones.
func goodTanks() []api.Tank {
	return append(smallTanks(), greatTanks()...)
}

// wrongNumbers has what is below 0, or above the most that there may be.
func wrongNumbers(most int) []int {
	return []int{-1, most + 1, -2, most + 2, -most - 1, 1 << 32, -1 << 32, 1<<32 + 1, math.MinInt, math.MinInt + 1, math.MaxInt, math.MaxInt - 1}
}

// badTanks has tanks of which one number is wrong, or several are.
func badTanks() []api.Tank {
	var all []api.Tank
	for _, n := range wrongNumbers(1_000_000) {
		// With what would be right for the Size, were it right: 0, as much as itself, and what is right elsewhere.
		for _, other := range []int{0, 1, n, 1_000_000} {
			all = append(all, tankOf(n, 0, other), tankOf(n, other, 0), tankOf(n, other, other))
		}
	}
	for _, size := range []int{0, 1, 2, 100, 999_999, 1_000_000} {
		for _, n := range wrongNumbers(size) {
			all = append(all, tankOf(size, n, 0), tankOf(size, n, size), tankOf(size, 0, n), tankOf(size, size, n), tankOf(size, n, n))
			// Added up they would be no more than Size, or nothing at all.
			all = append(all, tankOf(size, n, -n), tankOf(size, -n, n), tankOf(size, n, size-n), tankOf(size, size-n, n))
		}
	}
	return all
}

// told turns a tank bit by bit, as the chapter tells it: one comes while there is room, one goes while there is one.
func told(t api.Tank, bits int) (api.Tank, bool) {
	for range t.Each {
		if t.Has < t.Size {
			t.Has++
		}
	}
	for range bits {
		if t.Has == 0 {
			return api.Tank{}, false
		}
		t.Has--
	}
	return t, true
}

// toldRun turns it bit by bit, turn by turn.
func toldRun(t api.Tank, l []int) (int, bool) {
	for _, bits := range l {
		next, enough := told(t, bits)
		if !enough {
			return 0, false
		}
		t = next
	}
	return t.Has, true
}

// right checks that nothing is wrong with a tank.
func right(t *testing.T, x api.Tank) {
	t.Helper()
	if err := tank.Check(x); err != nil {
		t.Errorf("Check of %v: %v", x, err)
	}
}

// turns checks what a tank is behind a turn.
func turns(t *testing.T, x api.Tank, bits int, want api.Tank) {
	t.Helper()
	if got, err := tank.Turn(x, bits); got != want || err != nil {
		t.Errorf("Turn of %v, %d: %v %v, want %v", x, bits, got, err, want)
	}
}

// turnsNot checks that Turn tells an error, and an empty tank.
func turnsNot(t *testing.T, x api.Tank, bits int, want api.Errno) {
	t.Helper()
	if got, err := tank.Turn(x, bits); got != (api.Tank{}) || plain.Told(err) != want {
		t.Errorf("Turn of %v, %d: %v %v, want %v", x, bits, got, err, want)
	}
}

// may checks how many can go.
func may(t *testing.T, x api.Tank, want int) {
	t.Helper()
	if got, err := tank.May(x); got != want || err != nil {
		t.Errorf("May of %v: %d %v, want %d", x, got, err, want)
	}
}

// runs checks how many are there at last.
func runs(t *testing.T, x api.Tank, l []int, want int) {
	t.Helper()
	if got, err := tank.Run(x, l); got != want || err != nil {
		t.Errorf("Run of %v, %v: %d %v, want %d", x, l, got, err, want)
	}
}

// runsNot checks that Run tells an error, and 0.
func runsNot(t *testing.T, x api.Tank, l []int, want api.Errno) {
	t.Helper()
	if got, err := tank.Run(x, l); got != 0 || plain.Told(err) != want {
		t.Errorf("Run of %v, %v: %d %v, want %v", x, l, got, err, want)
	}
}

// refused checks that every call tells that a tank is wrong, and nothing else.
func refused(t *testing.T, x api.Tank) {
	t.Helper()
	if err := tank.Check(x); plain.Told(err) != api.ErrRange {
		t.Errorf("Check of %v: %v", x, err)
	}
	if got, err := tank.May(x); got != 0 || plain.Told(err) != api.ErrRange {
		t.Errorf("May of %v: %d %v", x, got, err)
	}
	// Also of bits that are wrong, and of more than could be there: the tank is told first.
	for _, bits := range []int{0, 1, x.Has, x.Size, 1_000_000, -1, 1_000_001, math.MinInt, math.MaxInt} {
		turnsNot(t, x, bits, api.ErrRange)
		runsNot(t, x, []int{bits}, api.ErrRange)
		runsNot(t, x, []int{0, bits}, api.ErrRange)
	}
	runsNot(t, x, nil, api.ErrRange)
	runsNot(t, x, []int{}, api.ErrRange)
	runsNot(t, x, repeat(0, 60), api.ErrRange)
}

func TestSomeTurns(t *testing.T) {
	for _, c := range []struct {
		x          api.Tank
		bits, want int
	}{
		{tankOf(100, 20, 100), 0, 100}, {tankOf(100, 20, 100), 20, 80}, {tankOf(100, 20, 80), 20, 80}, {tankOf(100, 20, 81), 0, 100},
		{tankOf(100, 20, 100), 100, 0}, {tankOf(100, 20, 0), 20, 0}, {tankOf(100, 20, 0), 7, 13}, {tankOf(100, 20, 50), 70, 0},
		{tankOf(348, 0, 210), 47, 163}, {tankOf(316, 300, 53), 8, 308}, {tankOf(408, 264, 279), 10, 398}, {tankOf(424, 69, 44), 28, 85},
	} {
		turns(t, c.x, c.bits, tankOf(c.x.Size, c.x.Each, c.want))
	}
	turnsNot(t, tankOf(100, 20, 100), 101, api.ErrLow)
	turnsNot(t, tankOf(100, 20, 0), 21, api.ErrLow)
	turnsNot(t, tankOf(15, 11, 0), 41, api.ErrLow)
}

func TestSomeMay(t *testing.T) {
	for _, c := range []struct {
		x    api.Tank
		want int
	}{
		{tankOf(100, 20, 0), 20}, {tankOf(100, 20, 50), 70}, {tankOf(100, 20, 79), 99}, {tankOf(100, 20, 80), 100},
		{tankOf(100, 20, 81), 100}, {tankOf(100, 20, 100), 100}, {tankOf(100, 0, 50), 50}, {tankOf(100, 100, 0), 100},
		{tankOf(1_000_000, 1_000_000, 1_000_000), 1_000_000}, {tankOf(1_000_000, 999_999, 0), 999_999}, {tankOf(1_000_000, 500_000, 499_999), 999_999},
	} {
		may(t, c.x, c.want)
	}
}

func TestSomeRuns(t *testing.T) {
	for _, c := range []struct {
		x    api.Tank
		l    []int
		want int
	}{
		{tankOf(348, 0, 210), nil, 210}, {tankOf(316, 300, 53), []int{27, 5, 21, 3}, 313},
		{tankOf(408, 264, 279), []int{11, 29, 6, 12, 13, 24, 15}, 393}, {tankOf(29, 24, 9), []int{3, 19, 17, 24, 24, 28, 11}, 14},
		{tankOf(100, 20, 100), []int{100, 20, 0, 0, 60}, 0}, {tankOf(100, 20, 100), []int{100, 0, 0, 0, 0, 0, 0}, 100},
		{tankOf(100, 20, 0), []int{1, 2, 3}, 54}, {tankOf(10, 1, 10), []int{4, 4, 4}, 0},
	} {
		runs(t, c.x, c.l, c.want)
	}
	runsNot(t, tankOf(10, 1, 10), []int{4, 4, 5}, api.ErrLow)
	runsNot(t, tankOf(31, 5, 9), []int{5, 4, 25, 4, 23, 6, 1}, api.ErrLow)
}

// TestEveryTurnOfSmallTanks holds each turn against one that goes bit by bit.
func TestEveryTurnOfSmallTanks(t *testing.T) {
	for _, x := range smallTanks() {
		right(t, x)
		for bits := range 10 {
			want, enough := told(x, bits)
			if enough {
				turns(t, x, bits, want)
			} else {
				turnsNot(t, x, bits, api.ErrLow)
			}
		}
	}
}

// TestAsManyAsMayAndOneMore has what May tells go, and one more, and one fewer.
func TestAsManyAsMayAndOneMore(t *testing.T) {
	for _, x := range goodTanks() {
		right(t, x)
		full, _ := told(x, 0)
		most := full.Has
		may(t, x, most)
		turns(t, x, 0, full)
		turns(t, x, most, tankOf(x.Size, x.Each, 0))
		runs(t, x, []int{most}, 0)
		if most > 0 {
			turns(t, x, most-1, tankOf(x.Size, x.Each, 1))
			runs(t, x, []int{most - 1}, 1)
		}
		// Of a Size of MaxCount one more may be none at all.
		want := api.ErrLow
		if most == 1_000_000 {
			want = api.ErrRange
		}
		turnsNot(t, x, most+1, want)
		runsNot(t, x, []int{most + 1}, want)
	}
}

// TestEveryRunOfTinyTanks has every row of up to four turns, held against one that goes bit by bit.
func TestEveryRunOfTinyTanks(t *testing.T) {
	rows, last := [][]int{nil}, [][]int{nil}
	for range 4 {
		var longer [][]int
		for _, l := range last {
			for bits := range 5 {
				longer = append(longer, behind(l, bits))
			}
		}
		rows, last = append(rows, longer...), longer
	}
	for _, x := range smallTanks() {
		for _, l := range rows {
			want, enough := toldRun(x, l)
			if enough {
				runs(t, x, l, want)
			} else {
				runsNot(t, x, l, api.ErrLow)
			}
		}
	}
}

// TestRunIsTurnByTurn has rows of every length, held against Turn of each behind the other.
func TestRunIsTurnByTurn(t *testing.T) {
	for _, x := range goodTanks() {
		for long := range 61 {
			for seed, most := range []int{x.Each, x.Each + 1, x.Size} {
				l := some(most, long, uint32(seed+long))
				now, err := x, error(nil)
				for _, bits := range l {
					if now, err = tank.Turn(now, bits); err != nil {
						break
					}
				}
				if err != nil {
					runsNot(t, x, l, plain.Told(err))
				} else {
					runs(t, x, l, now.Has)
				}
			}
		}
	}
}

// TestCutAnywhere has a row cut at every place: the second piece goes on where the first one ended.
func TestCutAnywhere(t *testing.T) {
	for _, x := range goodTanks() {
		l := some(x.Each, 60, 5)
		want, err := tank.Run(x, l)
		if err != nil {
			t.Fatalf("Run of %v, %v: %v", x, l, err)
		}
		for at := range 61 {
			half, err := tank.Run(x, l[:at])
			if err != nil {
				t.Errorf("Run of %v, %v: %v", x, l[:at], err)
			}
			runs(t, tankOf(x.Size, x.Each, half), l[at:], want)
		}
	}
}

func TestWithNoTurn(t *testing.T) {
	for _, x := range goodTanks() {
		// Nothing comes where there is no turn.
		runs(t, x, nil, x.Has)
		runs(t, x, []int{}, x.Has)
	}
}

func TestOneTurnIsATurn(t *testing.T) {
	for _, x := range goodTanks() {
		for _, bits := range []int{0, 1, x.Each, x.Has, x.Size, 999_999, 1_000_000, -1, 1_000_001} {
			now, err := tank.Turn(x, bits)
			if err != nil {
				runsNot(t, x, []int{bits}, plain.Told(err))
			} else {
				runs(t, x, []int{bits}, now.Has)
			}
		}
	}
}

func TestAsManyTurnsAsMayBe(t *testing.T) {
	runs(t, tankOf(100, 1, 0), repeat(0, 60), 60)
	runs(t, tankOf(60, 1, 0), repeat(0, 60), 60)
	runs(t, tankOf(59, 1, 0), repeat(0, 60), 59)
	runs(t, tankOf(60, 0, 60), repeat(1, 60), 0)
	runs(t, tankOf(61, 0, 61), repeat(1, 60), 1)
	runsNot(t, tankOf(59, 0, 59), repeat(1, 60), api.ErrLow)
	runs(t, tankOf(59, 0, 59), repeat(1, 59), 0)
	runs(t, tankOf(1_000_000, 1_000_000, 0), repeat(1_000_000, 60), 0)
	runs(t, tankOf(1_000_000, 16_666, 0), repeat(0, 60), 999_960)
}

func TestMoreThanMaxRow(t *testing.T) {
	// More than may be, ahead of all others: of tanks and bits that are wrong, and of too few.
	for _, x := range slices.Concat(smallTanks(), greatTanks(), badTanks()) {
		for _, bits := range []int{0, 1, -1, 1_000_000, 1_000_001, math.MinInt, math.MaxInt} {
			runsNot(t, x, repeat(bits, 61), api.ErrFull)
		}
		runsNot(t, x, place(0, 61, 60, -1), api.ErrFull)
		runsNot(t, x, place(0, 61, 0, x.Size+1), api.ErrFull)
		runsNot(t, x, repeat(0, 62), api.ErrFull)
		runsNot(t, x, repeat(0, 5000), api.ErrFull)
	}
}

func TestTankOfSizeNought(t *testing.T) {
	x := tankOf(0, 0, 0)
	right(t, x)
	may(t, x, 0)
	turns(t, x, 0, x)
	turnsNot(t, x, 1, api.ErrLow)
	turnsNot(t, x, 1_000_000, api.ErrLow)
	turnsNot(t, x, 1_000_001, api.ErrRange)
	turnsNot(t, x, -1, api.ErrRange)
	runs(t, x, nil, 0)
	runs(t, x, repeat(0, 60), 0)
	runsNot(t, x, place(0, 60, 59, 1), api.ErrLow)
	refused(t, tankOf(0, 1, 0))
	refused(t, tankOf(0, 0, 1))
	refused(t, tankOf(0, 1, -1))
}

func TestNothingComes(t *testing.T) {
	for _, size := range []int{1, 2, 100, 1_000_000} {
		for _, has := range []int{0, 1, size / 2, size} {
			x := tankOf(size, 0, has)
			right(t, x)
			may(t, x, has)
			turns(t, x, 0, x)
			turns(t, x, has, tankOf(size, 0, 0))
			runs(t, x, repeat(0, 60), has)
			runs(t, x, place(0, 60, 30, has), 0)
			runsNot(t, x, []int{has, 1}, api.ErrLow)
		}
	}
}

func TestAnEmptyTank(t *testing.T) {
	for _, size := range []int{1, 2, 100, 1_000_000} {
		for _, each := range []int{0, 1, size / 2, size} {
			x := tankOf(size, each, 0)
			right(t, x)
			may(t, x, each)
			turns(t, x, 0, tankOf(size, each, each))
			turns(t, x, each, x)
			runs(t, x, repeat(each, 60), 0)
			if each < size {
				turnsNot(t, x, each+1, api.ErrLow)
				runsNot(t, x, place(each, 60, 59, each+1), api.ErrLow)
			}
		}
	}
}

// fullTanks has tanks that nothing more goes into.
func fullTanks() []api.Tank {
	var all []api.Tank
	for _, size := range []int{0, 1, 2, 100, 1_000_000} {
		for _, each := range []int{0, min(1, size), size / 2, size} {
			all = append(all, tankOf(size, each, size))
		}
	}
	return all
}

// TestAFullTankStaysAsItIs has just what comes go: into a full tank nothing does, for there is no room.
func TestAFullTankStaysAsItIs(t *testing.T) {
	for _, x := range fullTanks() {
		right(t, x)
		may(t, x, x.Size)
		turns(t, x, 0, x)
		runs(t, x, repeat(0, 60), x.Size)
	}
}

// TestEachOfAFullTank has as many go as may come: the first turn makes room for them, and from then on the tank stays as it is.
func TestEachOfAFullTank(t *testing.T) {
	for _, x := range fullTanks() {
		roomy := tankOf(x.Size, x.Each, x.Size-x.Each)
		turns(t, x, x.Each, roomy)
		turns(t, roomy, x.Each, roomy)
		for long := 1; long <= 60; long++ {
			runs(t, x, repeat(x.Each, long), roomy.Has)
		}
	}
}

// TestNoMoreGoesThanThereWasAndCame adds up what went, and what is there at last.
func TestNoMoreGoesThanThereWasAndCame(t *testing.T) {
	for _, x := range goodTanks() {
		for seed := range uint32(6) {
			l := some(x.Each+int(seed%2), 60, seed)
			for long := range 61 {
				left, err := tank.Run(x, l[:long])
				if err != nil {
					break
				}
				went := 0
				for _, bits := range l[:long] {
					went += bits
				}
				if left < 0 || left > x.Size || went+left > x.Has+long*x.Each {
					t.Errorf("Run of %v, %v: %d went, and %d are there", x, l[:long], went, left)
				}
			}
		}
	}
}

func TestWrongTanks(t *testing.T) {
	for _, x := range badTanks() {
		refused(t, x)
	}
}

// TestEachTankAboutTheEdges has every tank of numbers from below 0 to above a small Size.
func TestEachTankAboutTheEdges(t *testing.T) {
	for size := -2; size < 5; size++ {
		for each := -2; each < 7; each++ {
			for has := -2; has < 7; has++ {
				x := tankOf(size, each, has)
				if size < 0 || each < 0 || has < 0 || each > size || has > size {
					refused(t, x)
				} else {
					right(t, x)
				}
			}
		}
	}
}

func TestTanksAtTheirEdges(t *testing.T) {
	for _, size := range []int{0, 1, 999_999, 1_000_000} {
		for _, each := range []int{0, size} {
			for _, has := range []int{0, size} {
				right(t, tankOf(size, each, has))
				refused(t, tankOf(size, each, size+1))
				refused(t, tankOf(size, size+1, has))
				refused(t, tankOf(size, each, -1))
				refused(t, tankOf(size, -1, has))
			}
		}
	}
	refused(t, tankOf(1_000_001, 0, 0))
	refused(t, tankOf(1_000_001, 1_000_001, 1_000_001))
	refused(t, tankOf(-1, 0, 0))
	refused(t, tankOf(-1, -1, -1))
	refused(t, tankOf(math.MaxInt, math.MaxInt, math.MaxInt))
	refused(t, tankOf(math.MinInt, math.MinInt, math.MinInt))
	refused(t, tankOf(1_000_000, math.MaxInt, math.MaxInt))
	refused(t, tankOf(1_000_000, math.MinInt, math.MinInt))
}

func TestBitsAtTheirEdges(t *testing.T) {
	for _, x := range goodTanks() {
		// Ahead of ErrLow: more than MaxCount is more than can be there as well.
		for _, bits := range wrongNumbers(1_000_000) {
			turnsNot(t, x, bits, api.ErrRange)
			runsNot(t, x, []int{bits}, api.ErrRange)
		}
		most, err := tank.May(x)
		if err != nil {
			t.Fatalf("May of %v: %v", x, err)
		}
		for _, bits := range []int{999_999, 1_000_000} {
			if bits > most {
				turnsNot(t, x, bits, api.ErrLow)
			} else {
				turns(t, x, bits, tankOf(x.Size, x.Each, most-bits))
			}
		}
	}
}

// TestTheFirstTurnsFaultIsTold has several turns of which more than one has a fault.
func TestTheFirstTurnsFaultIsTold(t *testing.T) {
	x := tankOf(100, 20, 50)
	for _, c := range []struct {
		l    []int
		want api.Errno
	}{
		{[]int{71, -1}, api.ErrLow}, {[]int{-1, 71}, api.ErrRange}, {[]int{71, 1_000_001}, api.ErrLow}, {[]int{1_000_001, 71}, api.ErrRange},
		{[]int{70, 21, -1}, api.ErrLow}, {[]int{70, -1, 21}, api.ErrRange}, {[]int{70, 20, 20, 20}, api.OK}, {[]int{70, 20, 20, 21, math.MinInt}, api.ErrLow},
		{[]int{1_000_000, math.MaxInt, math.MinInt}, api.ErrLow}, {[]int{math.MinInt, 1_000_000}, api.ErrRange}, {[]int{math.MaxInt, 1_000_000}, api.ErrRange},
		{behind(repeat(20, 58), 101, -1), api.ErrLow}, {behind(repeat(20, 58), -1, 101), api.ErrRange},
		{behind([]int{101}, repeat(-1, 59)...), api.ErrLow}, {behind([]int{-1}, repeat(101, 59)...), api.ErrRange},
	} {
		if c.want == api.OK {
			runs(t, x, c.l, 0)
		} else {
			runsNot(t, x, c.l, c.want)
		}
	}
}

// TestAFaultAtEachPlace has one turn that is wrong, at each place of rows of several lengths.
func TestAFaultAtEachPlace(t *testing.T) {
	x := tankOf(100, 20, 50)
	for _, long := range []int{1, 2, 7, 60} {
		for at := range long {
			for _, bits := range wrongNumbers(1_000_000) {
				runsNot(t, x, place(20, long, at, bits), api.ErrRange)
			}
			runsNot(t, x, place(20, long, at, 71), api.ErrLow)
			runs(t, x, place(20, long, at, 70), 0)
		}
	}
}

// TestATurnThatIsTooMuchChangesNothing asks the same tank again, once too many were asked of it.
func TestATurnThatIsTooMuchChangesNothing(t *testing.T) {
	for _, x := range goodTanks() {
		kept := x
		most, err := tank.May(x)
		if err != nil {
			t.Fatalf("May of %v: %v", x, err)
		}
		tank.Turn(x, most+1)
		tank.Run(x, []int{0, most + 1})
		if x != kept {
			t.Errorf("%v became %v", kept, x)
		}
		may(t, x, most)
		turns(t, x, most, tankOf(x.Size, x.Each, 0))
		runs(t, x, nil, x.Has)
	}
}

// TestListsAreLeftAlone looks at a row, and at what stands behind its length, after each call.
func TestListsAreLeftAlone(t *testing.T) {
	for _, x := range append(goodTanks(), badTanks()...) {
		for _, l := range [][]int{nil, {0}, {1, 0, 2}, {-1, 3}, {3, 1_000_001}, repeat(1, 60), repeat(1, 61), some(x.Each&1023, 30, 4)} {
			whole := behind(l, 77, -79, 1_000_001)
			kept := slices.Clone(whole)
			tank.Run(x, whole[:len(l)])
			if !slices.Equal(whole, kept) {
				t.Errorf("%v became %v", kept, whole)
			}
		}
	}
}

func TestWhatStandsBehindIsNotRead(t *testing.T) {
	x, l := tankOf(100, 20, 50), []int{70, 5, 35, -1, 101}
	runs(t, x, l[:0], 50)
	runs(t, x, l[:1], 0)
	runs(t, x, l[:2], 15)
	runs(t, x, l[:3], 0)
	runsNot(t, x, l[:4], api.ErrRange)
	runsNot(t, x, l, api.ErrRange)
	runs(t, x, l[1:3], 50)
	long := behind(repeat(20, 60), 0, -1)
	runs(t, x, long[:60], 50)
	runsNot(t, x, long[:61], api.ErrFull)
}

// TestARowIsNotKept writes over a row behind a call, and asks again.
func TestARowIsNotKept(t *testing.T) {
	x, l := tankOf(100, 20, 50), []int{70, 5, 35}
	runs(t, x, l, 0)
	l[0], l[1], l[2] = 0, 0, 1
	runs(t, x, l, 99)
	l[2] = -1
	runsNot(t, x, l, api.ErrRange)
	runs(t, x, []int{70, 5, 35}, 0)
}

func TestCallsAheadChangeNothing(t *testing.T) {
	x := tankOf(100, 20, 50)
	for range 3 {
		right(t, x)
		may(t, x, 70)
		turns(t, x, 30, tankOf(100, 20, 40))
		turnsNot(t, x, 71, api.ErrLow)
		turnsNot(t, x, -1, api.ErrRange)
		turnsNot(t, tankOf(100, 101, 50), 30, api.ErrRange)
		runs(t, x, []int{70, 5, 35}, 0)
		runsNot(t, x, []int{70, 5, 36}, api.ErrLow)
		runsNot(t, x, []int{70, 1_000_001}, api.ErrRange)
		runsNot(t, x, repeat(0, 61), api.ErrFull)
		refused(t, tankOf(100, 20, 101))
	}
}
