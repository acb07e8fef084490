package near_test

import (
	"math"
	"slices"
	"testing"

	"pulsehorn/api"
	"pulsehorn/count"
	"pulsehorn/near"
	"pulsehorn/plain"
	"pulsehorn/pulse"
)

// right checks the pulses of numbers.
func right(t *testing.T, v []int, k int, want []int) {
	t.Helper()
	if got, err := near.Of(v, k); !slices.Equal(got, want) || err != nil {
		t.Errorf("Of %v, %d: %v %v, want %v", v, k, got, err, want)
	}
}

// refused checks that Of tells an error, and answers nothing else.
func refused(t *testing.T, v []int, k int, want api.Errno) {
	t.Helper()
	if got, err := near.Of(v, k); got != nil || plain.Told(err) != want {
		t.Errorf("Of %v, %d: %v %v, want %v", v, k, got, err, want)
	}
}

// far checks how far pulses are from numbers.
func far(t *testing.T, v, p []int, want int) {
	t.Helper()
	if got, err := near.Far(v, p); got != want || err != nil {
		t.Errorf("Far of %v, %v: %d %v, want %d", v, p, got, err, want)
	}
}

// notFar checks that Far tells an error, and answers nothing else.
func notFar(t *testing.T, v, p []int, want api.Errno) {
	t.Helper()
	if got, err := near.Far(v, p); got != 0 || plain.Told(err) != want {
		t.Errorf("Far of %v, %v: %d %v, want %v", v, p, got, err, want)
	}
}

// place puts a number into a row of noughts.
func place(many, at, n int) []int {
	v := make([]int, many)
	v[at] = n
	return v
}

// rows has lists of numbers, few and many, alike and not, for what must hold of all.
func rows() [][]int {
	all := [][]int{
		{1}, {-1000}, {1000, 1000}, {1000, -999}, {1, 1000}, {5, -3, 0}, {-5, -5, -3}, {0, 0, 7}, {333, 333, 334},
		{1, 1, 1, 1}, {-1, 2, -3, 4}, {0, 9, 0, -9}, {55, 55, 53, 53}, {3, 1, 4, -1, 5}, {7, 7, 7, -7, 7}, {100, 1, 1, 1, 1},
		{-42, -39, 321, 321, 314, 314}, {1, 2, 3, 4, 5, 6}, {6, 5, 4, -3, 2, 1}, {2, 2, 2, 2, 2, 2}, {0, 0, 0, 0, 0, -1}, {1000, -1000, 1000, -1000, 1000, -1000}, {999, 1, 0, 1, 998, -1000},
	}
	// Numbers that go up and down without a rule that a share could follow.
	for n := 1; n <= 6; n++ {
		for seed := range 40 {
			var v []int
			for i := range n {
				v = append(v, (seed*7919+i*i*613+seed*i*271)%2001-1000)
			}
			all = append(all, v)
		}
	}
	return all
}

// rests of numbers' shares, by dividing, and the pulses that are certain.
func rests(v []int, k int) (certain, rest []int) {
	loud := 0
	for _, n := range v {
		loud += max(n, -n)
	}
	for _, n := range v {
		certain = append(certain, k*max(n, -n)/loud)
		rest = append(rest, k*max(n, -n)%loud)
	}
	return certain, rest
}

func TestSomeNumbers(t *testing.T) {
	for _, c := range []struct {
		v    []int
		k    int
		want []int
	}{
		{[]int{4}, 3, []int{3}}, {[]int{-4}, 3, []int{-3}}, {[]int{10, 30}, 4, []int{1, 3}}, {[]int{10, -30}, 8, []int{2, -6}},
		{[]int{-1000, -996}, 8, []int{-4, -4}}, {[]int{1, 1000}, 8, []int{0, 8}}, {[]int{-100, -100, -92}, 5, []int{-2, -2, -1}},
		{[]int{-5, -4, -4, -4}, 6, []int{-2, -2, -1, -1}}, {[]int{-1, -2, 5, 3, -4}, 8, []int{0, -1, 3, 2, -2}},
		{[]int{-42, -39, 321, 321, 314, 314}, 4, []int{0, 0, 1, 1, 1, 1}}, {[]int{434, 434, 435, 190, 190, 194}, 3, []int{1, 1, 1, 0, 0, 0}},
		{[]int{-10, -10, -13, 194, 185, 629}, 1, []int{0, 0, 0, 0, 0, 1}}, {[]int{0, 6, 0, -2, 0, 0}, 4, []int{0, 3, 0, -1, 0, 0}},
	} {
		right(t, c.v, c.k, c.want)
	}
}

func TestHowFar(t *testing.T) {
	for _, c := range []struct {
		v, p []int
		want int
	}{
		// Of like signs, and right on it.
		{[]int{10, -30}, []int{1, -3}, 0}, {[]int{5}, []int{8}, 0}, {[]int{-5}, []int{-8}, 0},
		// Of like signs, and beside it: 4*10-40*2 and 4*30-40*2.
		{[]int{10, 30}, []int{2, 2}, 80}, {[]int{-10, -30}, []int{-2, -2}, 80}, {[]int{10, -30}, []int{2, -2}, 80},
		// Of other signs.
		{[]int{4}, []int{-3}, 24}, {[]int{-4}, []int{3}, 24}, {[]int{10, 30}, []int{1, -3}, 240}, {[]int{10, 30}, []int{-1, 3}, 80},
		{[]int{-100, -100, -92}, []int{-3, 0, 0}, 1152}, {[]int{20, 20, 20, 20}, []int{-3, 0, 0, 0}, 480},
		{[]int{-1000, -996}, []int{-3, 0}, 5976}, {[]int{-42, -39, 321, 321, 314, 314}, []int{-3, 0, 0, 0, 0, 0}, 7854},
		// The farthest that may be.
		{[]int{1000, 1000, 1000, 1000, 1000, 1000}, []int{-8, 0, 0, 0, 0, 0}, 96000}, {[]int{1000, -1000}, []int{-4, 4}, 32000},
	} {
		far(t, c.v, c.p, c.want)
	}
}

func TestNoNumbersAndNoPulses(t *testing.T) {
	right(t, nil, 0, nil)
	right(t, []int{}, 0, nil)
	far(t, nil, nil, 0)
	far(t, []int{}, []int{}, 0)
	far(t, nil, []int{}, 0)
	for k := 1; k <= 8; k++ {
		refused(t, nil, k, api.ErrNone)
		refused(t, []int{}, k, api.ErrNone)
	}
}

func TestNumbersThatAreAll0(t *testing.T) {
	for n := 1; n <= 6; n++ {
		none := make([]int, n)
		right(t, none, 0, none)
		for k := 1; k <= 8; k++ {
			refused(t, none, k, api.ErrNone)
			far(t, none, place(n, n-1, k), 0)
			far(t, none, place(n, 0, -k), 0)
		}
		far(t, none, none, 0)
	}
}

func TestNoPulsesOfSomeNumbers(t *testing.T) {
	for _, v := range rows() {
		none := make([]int, len(v))
		right(t, v, 0, none)
		far(t, v, none, 0)
	}
}

func TestSoManyPulsesWithTheirSigns(t *testing.T) {
	for _, v := range rows() {
		for k := range 9 {
			p, err := near.Of(v, k)
			if err != nil || len(p) != len(v) {
				t.Fatalf("Of %v, %d: %v %v", v, k, p, err)
			}
			if got, err := pulse.Check(p); got != k || err != nil {
				t.Errorf("Of %v, %d: %v has %d pulses, %v", v, k, p, got, err)
			}
			for i := range v {
				if v[i] == 0 && p[i] != 0 || v[i] < 0 && p[i] > 0 || v[i] > 0 && p[i] < 0 {
					t.Errorf("Of %v, %d: %v has another sign at %d", v, k, p, i)
				}
			}
		}
	}
}

// TestSignsChangeNothingElse turns the signs, all or one, and looks for the same pulses with these signs.
func TestSignsChangeNothingElse(t *testing.T) {
	for _, v := range rows() {
		for k := 1; k <= 8; k++ {
			want, _ := near.Of(v, k)
			for i := range v {
				v, want := slices.Clone(v), slices.Clone(want)
				v[i], want[i] = -v[i], -want[i]
				right(t, v, k, want)
			}
		}
	}
}

func TestWhatIsLeftGoesToTheGreatestRests(t *testing.T) {
	for _, v := range rows() {
		for k := 1; k <= 8; k++ {
			p, _ := near.Of(v, k)
			certain, rest := rests(v, k)
			for i := range v {
				more := max(p[i], -p[i]) - certain[i]
				if more != 0 && more != 1 {
					t.Errorf("Of %v, %d: %v, but %v are certain", v, k, p, certain)
				}
				for j := range v {
					ahead := rest[j] > rest[i] || rest[j] == rest[i] && j < i
					if more == 1 && ahead && max(p[j], -p[j]) == certain[j] {
						t.Errorf("Of %v, %d: %v, but of the rests %v that at %d is ahead of that at %d", v, k, p, rest, j, i)
					}
				}
			}
		}
	}
}

func TestOfSeveralRestsTheFirst(t *testing.T) {
	right(t, []int{20, 20, 20, 20}, 1, []int{1, 0, 0, 0})
	right(t, []int{20, -20, 20, -20}, 2, []int{1, -1, 0, 0})
	right(t, []int{-20, 20, -20, 20}, 7, []int{-2, 2, -2, 1})
	right(t, []int{1, 1, 1, 1, 1, 1}, 8, []int{2, 2, 1, 1, 1, 1})
	right(t, []int{1, 1}, 1, []int{1, 0})
	right(t, []int{1000, -1000, 1000}, 8, []int{3, -3, 2})
	// 0 has no rest, though it stands first.
	right(t, []int{0, 0, 5, 5}, 1, []int{0, 0, 1, 0})
	// Shares 2 1/2, 1/2, 1/2, 1/2: whoever has a whole share already is not ahead by it, nor behind.
	right(t, []int{1, 1, 1, 5}, 4, []int{1, 1, 0, 2})
	right(t, []int{5, 1, 1, 1}, 4, []int{3, 1, 0, 0})
}

func TestTheGreatestRestIsNotTheGreatestNumber(t *testing.T) {
	// Shares 2 2/3 and 1/3.
	right(t, []int{8, 1}, 3, []int{3, 0})
	// Shares 2 1/10 and 9/10.
	right(t, []int{7, 3}, 3, []int{2, 1})
	right(t, []int{-7, -3}, 3, []int{-2, -1})
	// Shares 1 3/5, 4/5 and 3/5: one goes to the second, one to the first of the others.
	right(t, []int{8, 4, 3}, 3, []int{2, 1, 0})
	right(t, []int{3, 4, 8}, 3, []int{1, 1, 1})
}

// TestNoneIsNearer holds the pulses against every row of as many; of long lists, which have very many rows, one k each.
func TestNoneIsNearer(t *testing.T) {
	for at, v := range rows() {
		for k := 1; k <= 8; k++ {
			if len(v) > 3 && at%8+1 != k {
				continue
			}
			p, _ := near.Of(v, k)
			least, err := near.Far(v, p)
			if err != nil {
				t.Fatalf("Far of %v, %v: %v", v, p, err)
			}
			many, _ := count.Of(len(v), k)
			for rank := range many {
				other, _ := pulse.Of(len(v), k, rank)
				if got, _ := near.Far(v, other); got < least {
					t.Errorf("%v is %d from %v, but %v of Of is %d", other, got, v, p, least)
				}
			}
		}
	}
}

func TestHowManyNumbers(t *testing.T) {
	right(t, []int{9, 0, 0, 0, 0, -9}, 2, []int{1, 0, 0, 0, 0, -1})
	refused(t, []int{9, 0, 0, 0, 0, 0, -9}, 2, api.ErrFull)
	refused(t, make([]int, 7), 0, api.ErrFull)
	refused(t, make([]int, 32), 0, api.ErrFull)
	refused(t, make([]int, 33), 0, api.ErrFull)
	far(t, []int{9, 0, 0, 0, 0, -9}, []int{1, 0, 0, 0, 0, -1}, 0)
	notFar(t, make([]int, 7), make([]int, 6), api.ErrFull)
	notFar(t, make([]int, 7), nil, api.ErrFull)
	notFar(t, make([]int, 5000), nil, api.ErrFull)
	notFar(t, make([]int, 6), make([]int, 7), api.ErrFull)
	notFar(t, nil, make([]int, 5000), api.ErrFull)
}

func TestHowFarANumberMayBe(t *testing.T) {
	for n := 1; n <= 6; n++ {
		for at := range n {
			right(t, place(n, at, 1000), 8, place(n, at, 8))
			right(t, place(n, at, -1000), 8, place(n, at, -8))
			far(t, place(n, at, 1000), place(n, at, -8), 16000)
			far(t, place(n, at, -1000), place(n, at, -8), 0)
			for _, number := range []int{1001, -1001, 1 << 32, -1 << 32, math.MaxInt, math.MinInt, math.MinInt + 1} {
				refused(t, place(n, at, number), 1, api.ErrRange)
				refused(t, place(n, at, number), 0, api.ErrRange)
				notFar(t, place(n, at, number), place(n, at, 1), api.ErrRange)
			}
		}
	}
}

func TestHowManyPulsesAreAskedFor(t *testing.T) {
	right(t, []int{3, -1}, 0, []int{0, 0})
	right(t, []int{3, -1}, 8, []int{6, -2})
	for _, k := range []int{-1, 9, -2, 10, 1 << 32, -1 << 32, math.MaxInt, math.MinInt, math.MinInt + 1} {
		refused(t, []int{3, -1}, k, api.ErrRange)
	}
}

func TestHowManyPulsesThereAre(t *testing.T) {
	far(t, []int{3, -1}, []int{6, -2}, 0)
	notFar(t, []int{3, -1}, []int{6, -3}, api.ErrFull)
	notFar(t, []int{3, -1}, []int{8, 1}, api.ErrFull)
	far(t, []int{3}, []int{8}, 0)
	for _, number := range []int{9, -9, 1 << 32, math.MaxInt, math.MinInt, math.MinInt + 1} {
		notFar(t, []int{3}, []int{number}, api.ErrRange)
		notFar(t, []int{3, 0}, []int{0, number}, api.ErrRange)
	}
}

func TestAsManyPulsesAsNumbers(t *testing.T) {
	for n := range 7 {
		far(t, make([]int, n), make([]int, n), 0)
		for other := range 7 {
			if other != n {
				notFar(t, make([]int, n), make([]int, other), api.ErrShape)
			}
		}
	}
	notFar(t, []int{3, -1}, []int{3}, api.ErrShape)
	notFar(t, []int{3, -1}, []int{3, -1, 0}, api.ErrShape)
}

func TestTheFirstNamedIsToldByOf(t *testing.T) {
	beyond := slices.Repeat([]int{math.MinInt}, 7)
	refused(t, beyond, 9, api.ErrFull)
	refused(t, make([]int, 7), 9, api.ErrFull)
	refused(t, make([]int, 7), 1, api.ErrFull)
	refused(t, beyond[:6], 9, api.ErrRange)
	refused(t, beyond[:6], 1, api.ErrRange)
	refused(t, make([]int, 6), 9, api.ErrRange)
	refused(t, make([]int, 6), -1, api.ErrRange)
	refused(t, nil, 9, api.ErrRange)
	refused(t, nil, -1, api.ErrRange)
}

func TestTheFirstNamedIsToldByFar(t *testing.T) {
	// Too many numbers, ahead of what is wrong with them or with the pulses.
	notFar(t, slices.Repeat([]int{1001}, 7), []int{9}, api.ErrFull)
	notFar(t, make([]int, 7), []int{9}, api.ErrFull)
	// A wrong number, ahead of the pulses.
	notFar(t, []int{1001}, make([]int, 7), api.ErrRange)
	notFar(t, []int{1001}, []int{8, 1}, api.ErrRange)
	notFar(t, []int{1001}, []int{0, 0}, api.ErrRange)
	// Of the pulses as their chapter has it, ahead of how many they are.
	notFar(t, []int{1}, []int{9, 0, 0, 0, 0, 0, 0}, api.ErrFull)
	notFar(t, []int{1}, []int{8, 9}, api.ErrRange)
	notFar(t, []int{1}, []int{8, 1}, api.ErrFull)
	notFar(t, nil, []int{9}, api.ErrRange)
	notFar(t, nil, []int{8, 1}, api.ErrFull)
}

// TestListsAreLeftAlone looks at lists, and at what lies behind their lengths, after each call.
func TestListsAreLeftAlone(t *testing.T) {
	for _, c := range []struct{ v, p []int }{
		{[]int{3, -5}, []int{2, -5}}, {[]int{0, 1, -3, -1, -2, 0}, []int{0, 1, 0, 0, -2, 0}}, {[]int{0, 0}, []int{0, 0}},
		{[]int{1001, 0}, []int{1, 0}}, {[]int{5, 5, 5}, []int{8, 8, 8}}, {[]int{1}, []int{1, 1}}, {make([]int, 7), make([]int, 7)},
	} {
		v, p := append(slices.Clone(c.v), 77, -77), append(slices.Clone(c.p), 66, -66)
		keptV, keptP := slices.Clone(v), slices.Clone(p)
		for k := range 10 {
			near.Of(v[:len(c.v)], k)
		}
		near.Far(v[:len(c.v)], p[:len(c.p)])
		if !slices.Equal(v, keptV) || !slices.Equal(p, keptP) {
			t.Errorf("%v and %v became %v and %v", keptV, keptP, v, p)
		}
	}
}

func TestWhatLiesBehindIsNotRead(t *testing.T) {
	v, p := []int{10, -30, math.MinInt, 5, 5, 5, 5}, []int{2, -2, math.MinInt, 9, 9, 9, 9}
	right(t, v[:2], 4, []int{1, -3})
	far(t, v[:2], p[:2], 80)
	right(t, v[:0], 0, nil)
	far(t, v[:0], p[:0], 0)
}

func TestPulsesAreFreshEachTime(t *testing.T) {
	for _, v := range rows() {
		for k := range 9 {
			given := slices.Clone(v)
			first, _ := near.Of(given, k)
			want := slices.Clone(first)
			second, _ := near.Of(given, k)
			for i := range first {
				first[i] = 99
			}
			if !slices.Equal(given, v) {
				t.Errorf("%v became %v with its pulses", v, given)
			}
			clear(given)
			if !slices.Equal(second, want) {
				t.Errorf("Of %v, %d: %v became %v", v, k, want, second)
			}
			right(t, v, k, want)
		}
	}
}

// spread checks the pulses of numbers that are not held against samples' bounds.
func spread(t *testing.T, v []int, k int, want []int) {
	t.Helper()
	if got, err := near.Spread(v, k); !slices.Equal(got, want) || err != nil {
		t.Errorf("Spread of %v, %d: %v %v, want %v", v, k, got, err, want)
	}
}

func TestSpreadIsOfWithinItsBounds(t *testing.T) {
	for _, v := range rows() {
		for k := range 9 {
			want, _ := near.Of(v, k)
			spread(t, v, k, want)
		}
	}
}

func TestSpreadBeyondThem(t *testing.T) {
	spread(t, []int{0, -2000}, 8, []int{0, -8})
	spread(t, []int{2000, 1500}, 8, []int{5, 3})
	spread(t, []int{-1001, 1001, 1001}, 8, []int{-3, 3, 2})
	spread(t, []int{1 << 40, -1 << 40}, 8, []int{4, -4})
	spread(t, slices.Repeat([]int{-2000}, 7), 8, []int{-2, -1, -1, -1, -1, -1, -1})
	spread(t, []int{4001, -4001}, 0, []int{0, 0})
}

func TestWhatSpreadRefuses(t *testing.T) {
	for _, k := range []int{-1, 9, math.MaxInt, math.MinInt} {
		if got, err := near.Spread([]int{2000}, k); got != nil || plain.Told(err) != api.ErrRange {
			t.Errorf("Spread with %d: %v %v", k, got, err)
		}
		if got, err := near.Spread([]int{0}, k); got != nil || plain.Told(err) != api.ErrRange {
			t.Errorf("Spread of 0 with %d: %v %v", k, got, err)
		}
	}
	for _, v := range [][]int{nil, {0}, {0, 0}} {
		if got, err := near.Spread(v, 1); got != nil || plain.Told(err) != api.ErrNone {
			t.Errorf("Spread of %v: %v %v", v, got, err)
		}
	}
}
