package count_test

import (
	"math"
	"slices"
	"testing"

	"pulsehorn/api"
	"pulsehorn/count"
	"pulsehorn/plain"
)

// known has how many there are, by k and then by n.
func known() [][]int {
	return [][]int{
		{1, 1, 1, 1, 1, 1, 1},
		{0, 2, 4, 6, 8, 10, 12},
		{0, 2, 8, 18, 32, 50, 72},
		{0, 2, 12, 38, 88, 170, 292},
		{0, 2, 16, 66, 192, 450, 912},
		{0, 2, 20, 102, 360, 1002, 2364},
		{0, 2, 24, 146, 608, 1970, 5336},
		{0, 2, 28, 198, 952, 3530, 10836},
		{0, 2, 32, 258, 1408, 5890, 20256},
	}
}

// gone counts rows by going through all of them, number by number.
func gone(n, k int) int {
	if n == 0 {
		if k == 0 {
			return 1
		}
		return 0
	}
	many := 0
	for first := -k; first <= k; first++ {
		many += gone(n-1, k-max(first, -first))
	}
	return many
}

// wrong has numbers below 0, and above the most that may be, the nearest ones first.
func wrong(most int) []int {
	return []int{-1, most + 1, -2, most + 2, 64, -64, 1 << 32, -1 << 32, math.MaxInt, math.MinInt, math.MinInt + 1}
}

// right checks that both calls of n and k answer, and no error.
func right(t *testing.T, n, k, many, bits int) {
	t.Helper()
	if got, err := count.Of(n, k); got != many || err != nil {
		t.Errorf("Of %d, %d: %d %v, want %d", n, k, got, err, many)
	}
	if got, err := count.Bits(n, k); got != bits || err != nil {
		t.Errorf("Bits of %d, %d: %d %v, want %d", n, k, got, err, bits)
	}
}

// refused checks that both calls of n and k tell ErrRange, and answer nothing else.
func refused(t *testing.T, n, k int) {
	t.Helper()
	if got, err := count.Of(n, k); got != 0 || plain.Told(err) != api.ErrRange {
		t.Errorf("Of %d, %d: %d %v, want ErrRange", n, k, got, err)
	}
	if got, err := count.Bits(n, k); got != 0 || plain.Told(err) != api.ErrRange {
		t.Errorf("Bits of %d, %d: %d %v, want ErrRange", n, k, got, err)
	}
}

func TestEveryCountIsKnown(t *testing.T) {
	for k, row := range known() {
		for n, want := range row {
			if got, err := count.Of(n, k); got != want || err != nil {
				t.Errorf("Of %d, %d: %d %v, want %d", n, k, got, err, want)
			}
			if all := gone(n, k); all != want {
				t.Errorf("rows of %d, %d: %d, want %d", n, k, all, want)
			}
		}
	}
}

func TestNoNumbers(t *testing.T) {
	right(t, 0, 0, 1, 0)
	for k := 1; k <= 8; k++ {
		right(t, 0, k, 0, 0)
	}
}

func TestNoPulses(t *testing.T) {
	for n := range 7 {
		right(t, n, 0, 1, 0)
	}
}

func TestEachIsTheSumOfThree(t *testing.T) {
	of := func(n, k int) int {
		many, err := count.Of(n, k)
		if err != nil {
			t.Errorf("Of %d, %d: %v", n, k, err)
		}
		return many
	}
	for n := 1; n <= 6; n++ {
		for k := 1; k <= 8; k++ {
			if got, want := of(n, k), of(n-1, k)+of(n, k-1)+of(n-1, k-1); got != want {
				t.Errorf("Of %d, %d: %d, want the sum %d", n, k, got, want)
			}
		}
	}
}

func TestCountAndBits(t *testing.T) {
	for _, c := range []struct{ n, k, many, bits int }{
		{1, 1, 2, 1}, {1, 8, 2, 1}, {2, 1, 4, 2}, {3, 1, 6, 3}, {2, 2, 8, 3}, {4, 1, 8, 3},
		{5, 1, 10, 4}, {6, 1, 12, 4}, {2, 3, 12, 4}, {2, 4, 16, 4}, {3, 2, 18, 5}, {2, 5, 20, 5},
		{4, 2, 32, 5}, {2, 8, 32, 5}, {3, 3, 38, 6}, {5, 2, 50, 6}, {3, 4, 66, 7}, {6, 2, 72, 7},
		{3, 7, 198, 8}, {3, 8, 258, 9}, {4, 5, 360, 9}, {5, 5, 1002, 10}, {4, 8, 1408, 11},
		{6, 5, 2364, 12}, {5, 7, 3530, 12}, {6, 6, 5336, 13}, {5, 8, 5890, 13}, {6, 7, 10836, 14}, {6, 8, 20256, 15},
	} {
		right(t, c.n, c.k, c.many, c.bits)
	}
}

func TestBitsAreTheLeast(t *testing.T) {
	for k, row := range known() {
		for n, many := range row {
			b, err := count.Bits(n, k)
			if err != nil || b < 0 || 1<<b < many {
				t.Errorf("Bits of %d, %d: %d %v are too few for %d", n, k, b, err, many)
			}
			if b > 0 && 1<<(b-1) >= many {
				t.Errorf("Bits of %d, %d: %d are more than %d needs", n, k, b, many)
			}
		}
	}
}

func TestTable(t *testing.T) {
	for k, want := range known() {
		got, err := count.Table(k)
		if err != nil || len(got) != api.MaxBand+1 || !slices.Equal(got, want) {
			t.Errorf("Table of %d: %v %v, want %v", k, got, err, want)
		}
	}
}

func TestTableIsAsOfTells(t *testing.T) {
	for k := range api.MaxPulses + 1 {
		all, _ := count.Table(k)
		for n, want := range all {
			if got, err := count.Of(n, k); got != want || err != nil {
				t.Errorf("Of %d, %d: %d %v, but Table has %d", n, k, got, err, want)
			}
		}
	}
}

func TestCornersAreTaken(t *testing.T) {
	right(t, 0, 0, 1, 0)
	right(t, 0, 8, 0, 0)
	right(t, 6, 0, 1, 0)
	right(t, 6, 8, 20256, 15)
}

func TestWrongNumbersAreTold(t *testing.T) {
	for _, n := range wrong(6) {
		for k := range 9 {
			refused(t, n, k)
		}
		for _, k := range wrong(8) {
			refused(t, n, k)
		}
	}
	for _, k := range wrong(8) {
		for n := range 7 {
			refused(t, n, k)
		}
	}
}

// TestTheBoundsAreNotSwapped has what is an n but no k the other way round.
func TestTheBoundsAreNotSwapped(t *testing.T) {
	refused(t, 7, 6)
	refused(t, 8, 6)
	right(t, 6, 7, 10836, 14)
	right(t, 6, 8, 20256, 15)
}

func TestTableTellsWhatIsBeyond(t *testing.T) {
	for _, k := range wrong(8) {
		if got, err := count.Table(k); got != nil || plain.Told(err) != api.ErrRange {
			t.Errorf("Table of %d: %v %v, want ErrRange", k, got, err)
		}
	}
}

func TestTableIsFreshEachTime(t *testing.T) {
	for k, want := range known() {
		first, _ := count.Table(k)
		second, _ := count.Table(k)
		clear(first[:cap(first)])
		if !slices.Equal(second, want) {
			t.Errorf("Table of %d: %v shares memory with another one", k, second)
		}
		if third, _ := count.Table(k); !slices.Equal(third, want) {
			t.Errorf("Table of %d: %v after one was written into", k, third)
		}
		if many, _ := count.Of(6, k); many != want[6] {
			t.Errorf("Of 6, %d: %d after a Table was written into", k, many)
		}
	}
}
