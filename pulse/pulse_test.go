package pulse_test

import (
	"math"
	"slices"
	"testing"

	"pulsehorn/api"
	"pulsehorn/count"
	"pulsehorn/plain"
	"pulsehorn/pulse"
)

// rows of n numbers and k pulses, gone through number by number, the lesser ones first.
func rows(n, k int) [][]int {
	if n == 0 && k == 0 {
		return [][]int{nil}
	}
	if n == 0 {
		return nil
	}
	var all [][]int
	for first := -k; first <= k; first++ {
		for _, rest := range rows(n-1, k-max(first, -first)) {
			all = append(all, append([]int{first}, rest...))
		}
	}
	return all
}

// right checks of a row its pulses, its rank, and that this rank gives the row.
func right(t *testing.T, v []int, k, rank int) {
	t.Helper()
	if got, err := pulse.Check(v); got != k || err != nil {
		t.Errorf("Check of %v: %d %v, want %d", v, got, err, k)
	}
	if got, err := pulse.Rank(v); got != rank || err != nil {
		t.Errorf("Rank of %v: %d %v, want %d", v, got, err, rank)
	}
	if got, err := pulse.Of(len(v), k, rank); !slices.Equal(got, v) || err != nil {
		t.Errorf("Of %d, %d, %d: %v %v, want %v", len(v), k, rank, got, err, v)
	}
}

// refused checks that Check and Rank tell an error of a row, and answer nothing else.
func refused(t *testing.T, v []int, want api.Errno) {
	t.Helper()
	if got, err := pulse.Check(v); got != 0 || plain.Told(err) != want {
		t.Errorf("Check of %v: %d %v, want %v", v, got, err, want)
	}
	if got, err := pulse.Rank(v); got != 0 || plain.Told(err) != want {
		t.Errorf("Rank of %v: %d %v, want %v", v, got, err, want)
	}
}

// noRow checks that Of tells ErrRange, and answers nothing else.
func noRow(t *testing.T, n, k, rank int) {
	t.Helper()
	if got, err := pulse.Of(n, k, rank); got != nil || plain.Told(err) != api.ErrRange {
		t.Errorf("Of %d, %d, %d: %v %v, want ErrRange", n, k, rank, got, err)
	}
}

// wrong has numbers below 0, and above the most that may be, the nearest ones first.
func wrong(most int) []int {
	return []int{-1, most + 1, -2, most + 2, 64, -64, 1 << 32, -1 << 32, math.MaxInt, math.MinInt, math.MinInt + 1}
}

// place puts a number into a row of noughts.
func place(many, at, n int) []int {
	v := make([]int, many)
	v[at] = n
	return v
}

func TestSomeRows(t *testing.T) {
	for _, c := range []struct {
		v       []int
		k, rank int
	}{
		{[]int{-4}, 4, 0}, {[]int{5}, 5, 1}, {[]int{1, 0}, 1, 3}, {[]int{4, 0}, 4, 15}, {[]int{3, -5}, 8, 21},
		{[]int{2, -5}, 7, 17}, {[]int{-4, -4}, 8, 7}, {[]int{0, -3, 1}, 4, 27}, {[]int{0, 0, 2, 0}, 2, 19},
		{[]int{-1, 2, -1, 4}, 8, 522}, {[]int{-1, 1, 3, 1}, 6, 204}, {[]int{-1, -1, -4, 1, 0}, 7, 814},
		{[]int{2, 2, 1, 2, 1}, 8, 5131}, {[]int{0, 0, 0, 1, 0, 0}, 1, 8}, {[]int{0, 2, 2, 0, 0, 1}, 5, 1638},
		{[]int{1, 0, 1, -1, -3, 0}, 6, 4218},
	} {
		right(t, c.v, c.k, c.rank)
	}
}

// TestInTheirOrder has all rows of two numbers and two pulses, written out as they follow each other.
func TestInTheirOrder(t *testing.T) {
	for rank, v := range [][]int{{-2, 0}, {-1, -1}, {-1, 1}, {0, -2}, {0, 2}, {1, -1}, {1, 1}, {2, 0}} {
		right(t, v, 2, rank)
	}
}

// TestEveryRow goes through all rows that there are, in their order.
func TestEveryRow(t *testing.T) {
	for n := range 7 {
		for k := range 9 {
			all := rows(n, k)
			if many, err := count.Of(n, k); many != len(all) || err != nil {
				t.Errorf("there are %d rows of %d, %d, but count tells %d %v", len(all), n, k, many, err)
			}
			for rank, v := range all {
				right(t, v, k, rank)
			}
			noRow(t, n, k, -1)
			noRow(t, n, k, len(all))
		}
	}
}

// TestLesserOnesFirst asks Of alone, by comparing each row with the one ahead of it.
func TestLesserOnesFirst(t *testing.T) {
	for n := 1; n <= 6; n++ {
		for k := 1; k <= 8; k++ {
			many, _ := count.Of(n, k)
			last, _ := pulse.Of(n, k, 0)
			for rank := 1; rank < many; rank++ {
				next, err := pulse.Of(n, k, rank)
				if err != nil || slices.Compare(last, next) >= 0 {
					t.Errorf("Of %d, %d, %d: %v %v, but ahead of it is %v", n, k, rank, next, err, last)
				}
				last = next
			}
		}
	}
}

func TestNoNumbers(t *testing.T) {
	right(t, nil, 0, 0)
	right(t, []int{}, 0, 0)
	if v, err := pulse.Of(0, 0, 0); len(v) != 0 || err != nil {
		t.Errorf("Of 0, 0, 0: %v %v, want no numbers", v, err)
	}
	noRow(t, 0, 0, -1)
	noRow(t, 0, 0, 1)
}

func TestNoNumbersHoldNoPulse(t *testing.T) {
	for k := 1; k <= 8; k++ {
		for _, rank := range []int{0, 1, -1, 2, math.MaxInt, math.MinInt} {
			noRow(t, 0, k, rank)
		}
	}
}

func TestNumbersThatAreAll0(t *testing.T) {
	for n := 1; n <= 6; n++ {
		right(t, make([]int, n), 0, 0)
		noRow(t, n, 0, 1)
		noRow(t, n, 0, -1)
	}
	refused(t, make([]int, 7), api.ErrFull)
}

func TestHowManyNumbers(t *testing.T) {
	right(t, []int{-1, -1, -1, -1, -1, -1}, 6, 841)
	refused(t, []int{-1, -1, -1, -1, -1, -1, -1}, api.ErrFull)
	right(t, []int{8, 0, 0, 0, 0, 0}, 8, 20255)
	refused(t, []int{8, 0, 0, 0, 0, 0, 0}, api.ErrFull)
	refused(t, make([]int, 5000), api.ErrFull)
}

func TestHowFarANumberMayBe(t *testing.T) {
	for n := 1; n <= 6; n++ {
		many, _ := count.Of(n, 8)
		right(t, place(n, 0, -8), 8, 0)
		right(t, place(n, 0, 8), 8, many-1)
		for at := range n {
			for _, number := range []int{-8, 8} {
				if k, err := pulse.Check(place(n, at, number)); k != 8 || err != nil {
					t.Errorf("Check of %d at %d of %d: %d %v, want 8", number, at, n, k, err)
				}
			}
			for _, number := range []int{-9, 9, 64, -64, 1 << 32, -1 << 32, math.MaxInt, math.MinInt, math.MinInt + 1} {
				refused(t, place(n, at, number), api.ErrRange)
			}
		}
	}
}

func TestHowManyPulses(t *testing.T) {
	right(t, []int{7}, 7, 1)
	right(t, []int{7, 1}, 8, 30)
	right(t, []int{-7, -1}, 8, 1)
	for _, v := range [][]int{
		{8, 1}, {-8, -1}, {8, -1}, {1, 8}, {-4, 5}, {5, -4}, {8, 8}, {-8, -8}, {8, -8},
		{3, 3, 3}, {-3, -3, -3}, {2, 2, 2, 2, 1}, {2, 2, 2, 1, 1, 1}, {-1, 2, -1, 2, -1, 2}, {8, 8, 8, 8, 8, 8}, {8, 0, 0, 0, 0, -1},
	} {
		refused(t, v, api.ErrFull)
	}
}

func TestTheFirstNamedIsTold(t *testing.T) {
	// Too many numbers, and one of them wrong: they are too many.
	refused(t, []int{9, 0, 0, 0, 0, 0, 0}, api.ErrFull)
	refused(t, []int{0, 0, 0, 0, 0, 0, -9}, api.ErrFull)
	refused(t, slices.Repeat([]int{math.MinInt}, 7), api.ErrFull)
	// Too many pulses, and a number wrong: the number is told, wherever it stands.
	refused(t, []int{9, 1}, api.ErrRange)
	refused(t, []int{8, 1, 9}, api.ErrRange)
	refused(t, []int{8, 8, 8, 8, 8, -9}, api.ErrRange)
	// Added up these would wrap round to few.
	refused(t, []int{math.MaxInt, math.MaxInt, 2}, api.ErrRange)
	refused(t, []int{math.MinInt, math.MinInt}, api.ErrRange)
}

func TestCornersOfOf(t *testing.T) {
	for _, c := range []struct {
		n, k, rank int
		want       []int
	}{
		{6, 8, 0, []int{-8, 0, 0, 0, 0, 0}}, {6, 8, 1, []int{-7, -1, 0, 0, 0, 0}},
		{6, 8, 20254, []int{7, 1, 0, 0, 0, 0}}, {6, 8, 20255, []int{8, 0, 0, 0, 0, 0}},
		{6, 0, 0, []int{0, 0, 0, 0, 0, 0}}, {1, 8, 0, []int{-8}}, {1, 8, 1, []int{8}}, {1, 0, 0, []int{0}},
		{6, 1, 5, []int{0, 0, 0, 0, 0, -1}}, {6, 1, 6, []int{0, 0, 0, 0, 0, 1}}, {6, 1, 11, []int{1, 0, 0, 0, 0, 0}},
	} {
		if got, err := pulse.Of(c.n, c.k, c.rank); !slices.Equal(got, c.want) || err != nil {
			t.Errorf("Of %d, %d, %d: %v %v, want %v", c.n, c.k, c.rank, got, err, c.want)
		}
	}
}

func TestWrongHowManyAreTold(t *testing.T) {
	for _, rank := range []int{0, 1, -1, math.MaxInt, math.MinInt} {
		for _, n := range wrong(6) {
			for k := range 9 {
				noRow(t, n, k, rank)
			}
			for _, k := range wrong(8) {
				noRow(t, n, k, rank)
			}
		}
		for _, k := range wrong(8) {
			for n := range 7 {
				noRow(t, n, k, rank)
			}
		}
	}
}

func TestWrongRanksAreTold(t *testing.T) {
	for n := range 7 {
		for k := range 9 {
			many, _ := count.Of(n, k)
			for _, rank := range wrong(many - 1) {
				if rank < 0 || rank >= many {
					noRow(t, n, k, rank)
				}
			}
		}
	}
}

// TestRowsAreLeftAlone looks at the numbers of a row, and at those behind its length, after each call.
func TestRowsAreLeftAlone(t *testing.T) {
	for _, v := range [][]int{{3, -5}, {0, 1, -3, -1, -2, 0}, {0, 0}, {9, 0}, {8, 8}, {1, 1, 1, 1, 1, 1, 1}} {
		whole := append(slices.Clone(v), 77, -77)
		kept := slices.Clone(whole)
		row := whole[:len(v)]
		k, bad := pulse.Check(row)
		rank, _ := pulse.Rank(row)
		if !slices.Equal(whole, kept) {
			t.Errorf("%v became %v", kept, whole)
		}
		if bad != nil {
			continue
		}
		right(t, v, k, rank)
		clear(whole)
		if got, _ := pulse.Of(len(v), k, rank); !slices.Equal(got, v) {
			t.Errorf("Of %d, %d, %d: %v after the row was cleared, want %v", len(v), k, rank, got, v)
		}
	}
}

func TestWhatLiesBehindIsNotRead(t *testing.T) {
	whole := []int{1, -2, math.MinInt, 9, 9, 9, 9, 9}
	right(t, whole[:2], 3, 7)
	right(t, whole[:0], 0, 0)
}

func TestRowsAreFreshEachTime(t *testing.T) {
	for n := range 7 {
		for k := range 9 {
			first, err := pulse.Of(n, k, 0)
			if err != nil {
				continue
			}
			want := slices.Clone(first)
			second, _ := pulse.Of(n, k, 0)
			for i := range first {
				first[i] = 99
			}
			third, _ := pulse.Of(n, k, 0)
			if !slices.Equal(second, want) || !slices.Equal(third, want) {
				t.Errorf("Of %d, %d, 0: %v and %v, want %v", n, k, second, third, want)
			}
		}
	}
}
