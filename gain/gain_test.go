package gain_test

import (
	"math"
	"slices"
	"testing"

	"pulsehorn/api"
	"pulsehorn/gain"
	"pulsehorn/plain"
)

// known has the Value of each gain, -1 where no number has it as its Index.
func known() []int {
	return []int{
		0,
		1, -1, -1, -1,
		2, -1, 3, -1,
		4, 5, 6, 7,
		9, 11, 13, 15,
		18, 22, 26, 30,
		36, 44, 52, 60,
		72, 88, 104, 120,
		144, 176, 208, 240,
		288, 352, 416, 480,
		576, 704, 832, 960,
		1152, 1408, 1664, 1920,
		2304, 2816, 3328, 3840,
		4608, 5632, 6656, 7680,
		-1,
	}
}

// none has the gains that no number has: 1 has no fourths, 2 and 3 have every other one, and what has the last is above MaxInside.
func none() []int {
	return []int{2, 3, 4, 6, 8, 53}
}

// counted is the Index of a number by doubling, and then by adding fourths, one by one; all is held 4 times, so that fourths are whole.
func counted(n int) int {
	if n == 0 {
		return 0
	}
	g, power := 1, 1
	for 2*power <= n {
		power *= 2
		g += 4
	}
	for reached := 4*power + power; reached <= 4*n; reached += power {
		g++
	}
	return g
}

// beyond has numbers below 0 and above the most that may be, the nearest ones first.
func beyond(most int) []int {
	return []int{-1, most + 1, -2, most + 2, 1 << 13, -1 << 13, 1 << 32, -1 << 32, 1<<32 + 1, 1 << 62, math.MaxInt, math.MaxInt - 1, math.MinInt, math.MinInt + 1}
}

// index checks the Index of a number.
func index(t *testing.T, n, want int) {
	t.Helper()
	if got, err := gain.Index(n); got != want || err != nil {
		t.Errorf("Index of %d: %d %v, want %d", n, got, err, want)
	}
}

// value checks the Value of a gain.
func value(t *testing.T, g, want int) {
	t.Helper()
	if got, err := gain.Value(g); got != want || err != nil {
		t.Errorf("Value of %d: %d %v, want %d", g, got, err, want)
	}
}

// noIndex checks that Index tells ErrRange, and answers nothing else.
func noIndex(t *testing.T, n int) {
	t.Helper()
	if got, err := gain.Index(n); got != 0 || plain.Told(err) != api.ErrRange {
		t.Errorf("Index of %d: %d %v, want ErrRange", n, got, err)
	}
}

// noValue checks that Value tells ErrRange, and answers nothing else.
func noValue(t *testing.T, g int) {
	t.Helper()
	if got, err := gain.Value(g); got != 0 || plain.Told(err) != api.ErrRange {
		t.Errorf("Value of %d: %d %v, want ErrRange", g, got, err)
	}
}

func TestSomeNumbers(t *testing.T) {
	for _, c := range []struct{ n, want int }{
		{21, 18}, {17, 17}, {24, 19}, {37, 21}, {100, 27}, {800, 39}, {1000, 40}, {1846, 44}, {2769, 46}, {6484, 51}, {7076, 51}, {7479, 52},
	} {
		index(t, c.n, c.want)
	}
}

func TestSomeGains(t *testing.T) {
	for _, c := range []struct{ g, want int }{
		{11, 6}, {17, 18}, {22, 44}, {30, 176}, {31, 208}, {32, 240}, {38, 704}, {39, 832}, {44, 1920}, {48, 3840}, {50, 5632}, {51, 6656},
	} {
		value(t, c.g, c.want)
	}
}

func TestOf0ItIs0(t *testing.T) {
	index(t, 0, 0)
	value(t, 0, 0)
}

func TestPowersOfTwo(t *testing.T) {
	// One below, the power, and one above: of the small powers each of these is in a step of its own.
	for m, want := range [][]int{{0, 1, 5}, {1, 5, 7}, {7, 9, 10}} {
		for i, g := range want {
			index(t, 1<<m-1+i, g)
		}
	}
	for m := 3; m <= 12; m++ {
		index(t, 1<<m-1, 4*m)
		index(t, 1<<m, 1+4*m)
		index(t, 1<<m+1, 1+4*m)
	}
	noIndex(t, 1<<13-1)
	noIndex(t, 1<<13)
	noIndex(t, 1<<13+1)
}

func TestWhereAFourthPartIsNotWhole(t *testing.T) {
	index(t, 1, 1)
	index(t, 2, 5)
	index(t, 3, 7)
	value(t, 1, 1)
	value(t, 5, 2)
	value(t, 7, 3)
}

func TestTheFirstFourthPartsThatAreWhole(t *testing.T) {
	for n := 4; n < 8; n++ {
		index(t, n, n+5)
		value(t, n+5, n)
	}
	for n := 8; n < 16; n++ {
		index(t, n, 13+(n-8)/2)
	}
}

func TestWhereQTurns(t *testing.T) {
	for m := 2; m <= 12; m++ {
		fourth := 1 << (m - 2)
		for q := 1; q <= 3; q++ {
			at := 1<<m + q*fourth
			index(t, at-1, 1+4*m+q-1)
			index(t, at, 1+4*m+q)
		}
	}
	for _, c := range []struct{ n, want int }{
		{5119, 49}, {5120, 50}, {6143, 50}, {6144, 51}, {7167, 51}, {7168, 52},
		{1279, 41}, {1280, 42}, {19, 17}, {20, 18}, {23, 18}, {24, 19}, {27, 19}, {28, 20}, {31, 20}, {32, 21},
	} {
		index(t, c.n, c.want)
	}
}

func TestEveryNumber(t *testing.T) {
	for n := range api.MaxInside + 1 {
		index(t, n, counted(n))
	}
}

func TestEveryGain(t *testing.T) {
	if len(known()) != api.MaxGain+1 {
		t.Fatalf("%d gains are known", len(known()))
	}
	for g, want := range known() {
		if want < 0 {
			noValue(t, g)
		} else {
			value(t, g, want)
		}
	}
}

// TestGainsThatNoNumberHas looks at every number for those that have a gain.
func TestGainsThatNoNumberHas(t *testing.T) {
	has := make([]bool, api.MaxGain+1)
	for n := range api.MaxInside + 1 {
		has[counted(n)] = true
	}
	for g := range has {
		if has[g] == slices.Contains(none(), g) {
			t.Errorf("gain %d: has a number %v", g, has[g])
		}
		if got, err := gain.Value(g); has[g] != (err == nil) {
			t.Errorf("Value of %d: %d %v, but has a number %v", g, got, err, has[g])
		}
	}
	for _, g := range none() {
		noValue(t, g)
	}
}

func TestTheValueOfAGainHasThatGain(t *testing.T) {
	for g := range api.MaxGain + 1 {
		if slices.Contains(none(), g) {
			continue
		}
		n, err := gain.Value(g)
		if err != nil {
			t.Errorf("Value of %d: %v", g, err)
		}
		index(t, n, g)
	}
}

func TestTheIndexOfANumberHasAValue(t *testing.T) {
	for n := range api.MaxInside + 1 {
		g, _ := gain.Index(n)
		got, err := gain.Value(g)
		// Told within an eighth.
		if err != nil || 8*max(got-n, n-got) > n {
			t.Errorf("Value of %d, the Index of %d: %d %v", g, n, got, err)
		}
	}
}

func TestLouderIsNeverLess(t *testing.T) {
	last := 0
	for n := range api.MaxInside + 1 {
		g, err := gain.Index(n)
		if err != nil || g < last {
			t.Errorf("Index of %d: %d %v, but of one less %d", n, g, err, last)
		}
		last = g
	}
}

func TestEdges(t *testing.T) {
	index(t, 0, 0)
	noIndex(t, -1)
	index(t, 8000, 52)
	noIndex(t, 8001)
	value(t, 0, 0)
	noValue(t, -1)
	// The last gain within bounds that a number has, and MaxGain, which none has.
	value(t, 52, 7680)
	noValue(t, 53)
	noValue(t, 54)
}

func TestWrongNumbersAreTold(t *testing.T) {
	for _, n := range beyond(8000) {
		noIndex(t, n)
	}
}

func TestWrongGainsAreTold(t *testing.T) {
	for _, g := range beyond(53) {
		noValue(t, g)
	}
	// Of these a shift or a rest would come to what is in bounds, were they not refused.
	for _, g := range []int{57, 64, 255, 256, 257, 261, -3, -4, -7, -8} {
		noValue(t, g)
	}
}

func TestCallsAheadChangeNothing(t *testing.T) {
	for range 2 {
		index(t, 100, 27)
		noIndex(t, 8001)
		index(t, 100, 27)
		value(t, 27, 104)
		noValue(t, 2)
		value(t, 27, 104)
	}
}
