package share_test

import (
	"math"
	"slices"
	"testing"

	"pulsehorn/api"
	"pulsehorn/band"
	"pulsehorn/count"
	"pulsehorn/plain"
	"pulsehorn/share"
)

// known has how many bits a band needs, by its size less 1 and then by its pulses.
var known = [6][9]int{
	{0, 1, 1, 1, 1, 1, 1, 1, 1},
	{0, 2, 3, 4, 4, 5, 5, 5, 5},
	{0, 3, 5, 6, 7, 7, 8, 8, 9},
	{0, 3, 5, 7, 8, 9, 10, 10, 11},
	{0, 4, 6, 8, 9, 10, 11, 12, 13},
	{0, 4, 7, 9, 10, 12, 13, 14, 15},
}

// knownCost adds up what is known.
func knownCost(sizes, pulses []int) int {
	total := 0
	for i, n := range sizes {
		total += known[n-1][pulses[i]]
	}
	return total
}

// repeat makes a list of one number, so many times.
func repeat(n, many int) []int {
	return slices.Repeat([]int{n}, many)
}

// place puts a number into a list of another one.
func place(other, many, at, n int) []int {
	l := repeat(other, many)
	l[at] = n
	return l
}

// behind has numbers behind those of a list, in memory of its own.
func behind(l []int, more ...int) []int {
	return slices.Concat(l, more)
}

// some makes numbers from low to high that go up and down without a rule that a pulse could follow.
func some(low, high, many int, seed uint32) []int {
	l := make([]int, many)
	for i := range l {
		seed = seed*1664525 + 1013904223
		l[i] = low + int(seed>>8)%(high-low+1)
	}
	return l
}

// goodSizes has sizes that no call refuses: few and many, small and great, alike and not.
func goodSizes() [][]int {
	return [][]int{
		{1}, {2}, {3}, {4}, {5}, {6},
		{1, 1}, {1, 6}, {6, 1}, {2, 3}, {4, 4}, {6, 6},
		{2, 1, 5}, {6, 3, 3}, {1, 2, 3}, {5, 5, 5},
		{6, 1, 2, 3}, {4, 4, 4, 4}, {1, 2, 3, 4, 5, 6}, {6, 5, 4, 3, 2, 1}, {6, 6, 6, 6, 6},
		{6, 6, 6, 6, 6, 2}, {6, 6, 6, 6, 6, 1, 1}, repeat(1, 8), repeat(4, 8), {6, 1, 6, 2, 6, 3, 6, 2}, {1, 1, 1, 1, 1, 1, 1, 6},
	}
}

// badSizes has sizes that every call refuses, and which error it tells of them.
func badSizes() map[string]struct {
	sizes []int
	want  api.Errno
} {
	type row = struct {
		sizes []int
		want  api.Errno
	}
	return map[string]row{
		"nil":                                {nil, api.ErrNone},
		"empty":                              {[]int{}, api.ErrNone},
		"one band too many":                  {repeat(1, 9), api.ErrFull},
		"far too many bands":                 {repeat(1, 5000), api.ErrFull},
		"too many, of which one is 0":        {place(1, 9, 3, 0), api.ErrFull},
		"too many, all wrong":                {repeat(math.MinInt, 9), api.ErrFull},
		"of 0":                               {[]int{0}, api.ErrRange},
		"one above":                          {[]int{7}, api.ErrRange},
		"below 0":                            {[]int{-1}, api.ErrRange},
		"the least":                          {[]int{math.MinInt}, api.ErrRange},
		"the greatest":                       {[]int{math.MaxInt}, api.ErrRange},
		"the first is 0":                     {[]int{0, 1, 1}, api.ErrRange},
		"the last is 0":                      {[]int{1, 1, 0}, api.ErrRange},
		"the first is above":                 {[]int{7, 1, 1}, api.ErrRange},
		"the last of most is above":          {place(1, 8, 7, 7), api.ErrRange},
		"below 0, which come to one":         {[]int{6, -5}, api.ErrRange},
		"above, and more than may be in all": {[]int{6, 6, 6, 6, 6, 6, 7}, api.ErrRange},
		"more than may be in all, then 0":    {[]int{6, 6, 6, 6, 6, 6, 0}, api.ErrRange},
		"one number too many":                {[]int{6, 6, 6, 6, 6, 3}, api.ErrFull},
		"one number too many, most bands":    {[]int{4, 4, 4, 4, 4, 4, 4, 5}, api.ErrFull},
		"most bands of most":                 {repeat(6, 8), api.ErrFull},
	}
}

// louds has lists of so many, none refused: alike, one alone, falling by squares, at the edges, and without a rule.
func louds(many int) [][]int {
	all := [][]int{repeat(0, many), repeat(1, many), repeat(8000, many), repeat(144, many)}
	squares := make([]int, many)
	for i := range squares {
		squares[i] = (i + 1) * (i + 1) * 36
	}
	turned := slices.Clone(squares)
	slices.Reverse(turned)
	all = append(all, squares, turned)
	for at := range many {
		all = append(all, place(0, many, at, 1), place(1, many, at, 8000), place(8000, many, at, 0), place(100, many, at, 101))
	}
	for seed := range uint32(4) {
		all = append(all, some(0, 8000, many, seed), some(1, 40, many, seed+9), some(0, 2, many, seed+19))
	}
	return all
}

// someBits has how many bits there may be: none, few, some, and more than any bands need.
func someBits() []int {
	return []int{0, 1, 2, 3, 4, 5, 6, 7, 8, 10, 13, 17, 22, 30, 41, 55, 79, 400}
}

// eachGood goes over what no call refuses.
func eachGood(do func(sizes, loud []int, bits int)) {
	for _, sizes := range goodSizes() {
		for _, loud := range louds(len(sizes)) {
			for _, bits := range someBits() {
				do(sizes, loud, bits)
			}
		}
	}
}

// ahead tells whether one band goes ahead of another, in parts of which each square up to 64 makes whole ones.
func ahead(loud, pulses []int, a, b int) bool {
	parts := func(i int) int { return loud[i] * (840 * 840 / ((pulses[i] + 1) * (pulses[i] + 1))) }
	return parts(a) > parts(b)
}

// couldHave are the bands that may have one more, by the whole cost of it.
func couldHave(sizes, loud, pulses []int, bits int) []int {
	var who []int
	for i := range sizes {
		if loud[i] == 0 || pulses[i] >= 8 {
			continue
		}
		more := slices.Clone(pulses)
		more[i]++
		if knownCost(sizes, more) <= bits {
			who = append(who, i)
		}
	}
	return who
}

// told gives pulses out one by one, as the chapter tells it.
func told(sizes, loud []int, bits int) []int {
	pulses := make([]int, len(sizes))
	for {
		who := couldHave(sizes, loud, pulses, bits)
		if len(who) == 0 {
			return pulses
		}
		at := who[0]
		for _, i := range who[1:] {
			if ahead(loud, pulses, i, at) {
				at = i
			}
		}
		pulses[at]++
	}
}

// costs checks how many bits bands need.
func costs(t *testing.T, sizes, pulses []int, want int) {
	t.Helper()
	if got, err := share.Cost(sizes, pulses); got != want || err != nil {
		t.Errorf("Cost of %v, %v: %d %v, want %d", sizes, pulses, got, err, want)
	}
}

// gives checks the pulses of bands, and how many bits are left.
func gives(t *testing.T, sizes, loud []int, bits int, want []int) {
	t.Helper()
	if got, err := share.Of(sizes, loud, bits); !slices.Equal(got, want) || err != nil {
		t.Errorf("Of %v, %v, %d: %v %v, want %v", sizes, loud, bits, got, err, want)
	}
	left := bits - knownCost(sizes, want)
	if got, err := share.Left(sizes, loud, bits); got != left || err != nil {
		t.Errorf("Left of %v, %v, %d: %d %v, want %d", sizes, loud, bits, got, err, left)
	}
}

// noCost checks that Cost tells an error, and answers nothing else.
func noCost(t *testing.T, sizes, pulses []int, want api.Errno) {
	t.Helper()
	if got, err := share.Cost(sizes, pulses); got != 0 || plain.Told(err) != want {
		t.Errorf("Cost of %v, %v: %d %v, want %v", sizes, pulses, got, err, want)
	}
}

// givesNone checks that Of and Left tell an error, and answer nothing else.
func givesNone(t *testing.T, sizes, loud []int, bits int, want api.Errno) {
	t.Helper()
	if got, err := share.Of(sizes, loud, bits); got != nil || plain.Told(err) != want {
		t.Errorf("Of %v, %v, %d: %v %v, want %v", sizes, loud, bits, got, err, want)
	}
	if got, err := share.Left(sizes, loud, bits); got != 0 || plain.Told(err) != want {
		t.Errorf("Left of %v, %v, %d: %d %v, want %v", sizes, loud, bits, got, err, want)
	}
}

func TestSomeCosts(t *testing.T) {
	for _, c := range []struct {
		sizes, pulses []int
		want          int
	}{
		{[]int{4, 3}, []int{3, 8}, 16}, {[]int{1, 3}, []int{8, 7}, 9}, {[]int{4}, []int{0}, 0}, {[]int{1}, []int{5}, 1},
		{[]int{6}, []int{1}, 4}, {[]int{2, 1, 5}, []int{4, 3, 1}, 9}, {[]int{6, 1, 2, 3}, []int{0, 6, 5, 6}, 14},
		{[]int{2, 4, 2}, []int{6, 1, 8}, 13}, {[]int{5, 4, 3}, []int{5, 4, 6}, 26}, {[]int{6, 3, 3}, []int{1, 3, 2}, 15},
		{repeat(1, 8), repeat(8, 8), 8}, {repeat(4, 8), repeat(8, 8), 88}, {repeat(4, 8), repeat(0, 8), 0},
		{[]int{6, 6, 6, 6, 6, 2}, repeat(8, 6), 80}, {[]int{6, 6, 6, 6, 6, 2}, repeat(1, 6), 22},
	} {
		costs(t, c.sizes, c.pulses, c.want)
	}
}

func TestCostOfEachBand(t *testing.T) {
	for size := 1; size <= 6; size++ {
		for k := range 9 {
			costs(t, []int{size}, []int{k}, known[size-1][k])
		}
	}
}

// TestCostIsEachBandsBits holds Cost against chapter 5's Bits.
func TestCostIsEachBandsBits(t *testing.T) {
	for _, sizes := range goodSizes() {
		for seed := range uint32(60) {
			pulses := some(0, 8, len(sizes), seed)
			want := 0
			for i, n := range sizes {
				bits, err := count.Bits(n, pulses[i])
				if err != nil {
					t.Fatalf("Bits of %d, %d: %v", n, pulses[i], err)
				}
				want += bits
			}
			costs(t, sizes, pulses, want)
			costs(t, sizes, pulses, knownCost(sizes, pulses))
		}
	}
}

func TestSomeBands(t *testing.T) {
	for _, c := range []struct {
		sizes, loud []int
		bits        int
		want        []int
	}{
		{[]int{4, 3}, []int{5, 9}, 2, []int{0, 0}},
		{[]int{1, 3}, []int{6896, 7565}, 11, []int{8, 8}},
		{[]int{4}, []int{1488}, 14, []int{8}},
		{[]int{1}, []int{12}, 56, []int{8}},
		{[]int{6}, []int{4}, 12, []int{5}},
		{[]int{2, 1, 5}, []int{15, 2, 16}, 6, []int{1, 0, 1}},
		{[]int{2}, []int{7}, 1, []int{0}},
		{[]int{6, 1, 2, 3}, []int{3730, 7260, 5991, 7196}, 52, []int{8, 8, 8, 8}},
		{[]int{3, 5}, []int{8, 6}, 36, []int{8, 8}},
		{[]int{2, 4, 2}, []int{18, 5, 11}, 10, []int{4, 1, 2}},
		{[]int{5, 4, 3}, []int{1, 13, 8}, 2, []int{0, 0, 0}},
		{[]int{6, 3, 3}, []int{16, 16, 8}, 7, []int{1, 1, 0}},
	} {
		gives(t, c.sizes, c.loud, c.bits, c.want)
	}
}

func TestAsTheChapterTells(t *testing.T) {
	eachGood(func(sizes, loud []int, bits int) {
		gives(t, sizes, loud, bits, told(sizes, loud, bits))
	})
}

// TestPulseByPulse has two bands alike, of which the bits of each step are known.
func TestPulseByPulse(t *testing.T) {
	// By 36 and 16: 36 16, 9 16, 9 4, 4 4, 2.25 4, 2.25 1.78, and so on; the first of equal ones.
	for bits, want := range map[int][]int{
		3: {1, 0}, 6: {1, 1}, 8: {2, 1}, 9: {3, 1}, 11: {3, 2},
	} {
		gives(t, []int{3, 3}, []int{36, 16}, bits, want)
	}
	// Then 1.44 1.78, but the second is too dear, and the first pays nothing.
	gives(t, []int{3, 3}, []int{36, 16}, 12, []int{5, 2})
	for bits, want := range map[int][]int{3: {0, 1}, 6: {1, 1}, 8: {1, 2}, 10: {2, 2}, 11: {2, 3}} {
		gives(t, []int{3, 3}, []int{16, 36}, bits, want)
	}
}

// TestTheSquareIsOfOneMore has bands of which other rules would choose another one.
func TestTheSquareIsOfOneMore(t *testing.T) {
	// 10 by 4 is behind 4, but not squared 10 by 2 would be ahead; by the squares of two more, 10 by 9 would be ahead of 4 by 4.
	gives(t, []int{3, 3}, []int{10, 4}, 6, []int{1, 1})
	// 10 by 4 is ahead of 2, and 10 by 9 behind, but too few bits are left for the second.
	gives(t, []int{3, 3}, []int{10, 2}, 5, []int{2, 0})
	gives(t, []int{3, 3}, []int{10, 2}, 6, []int{3, 0})
	gives(t, []int{3, 3}, []int{10, 2}, 8, []int{2, 1})
	// 9 by 9 is as much as 1, and the first has it; 9 by 16 is behind, but goes on where the second is too dear.
	gives(t, []int{3, 3}, []int{9, 1}, 6, []int{3, 0})
	gives(t, []int{3, 3}, []int{9, 1}, 8, []int{7, 0})
	gives(t, []int{3, 3}, []int{9, 1}, 9, []int{3, 1})
}

func TestHeldAgainstEachOtherWithoutRest(t *testing.T) {
	// 4 by 4 and 7 by 4 are both 1, rounded down: but the second is ahead.
	gives(t, []int{2, 2}, []int{4, 7}, 5, []int{1, 2})
	// 1 by 4 and 3 by 4 are both 0, rounded down, and 0 by itself is no reason to get none.
	gives(t, []int{3, 3}, []int{1, 3}, 8, []int{1, 2})
	gives(t, []int{3}, []int{1}, 9, []int{8})
	// One bit is left, for the last pulse of the loud one or for all of the soft one: 8000 by 64 is 125, 7999 by 64 a bit less.
	for _, c := range []struct{ loud, want []int }{
		{[]int{8000, 124}, []int{8, 0}}, {[]int{8000, 125}, []int{8, 0}}, {[]int{8000, 126}, []int{7, 8}},
		{[]int{7999, 124}, []int{8, 0}}, {[]int{7999, 125}, []int{7, 8}},
	} {
		gives(t, []int{3, 1}, c.loud, 9, c.want)
	}
	for _, c := range []struct{ loud, want []int }{
		{[]int{124, 8000}, []int{0, 8}}, {[]int{125, 8000}, []int{8, 7}}, {[]int{126, 8000}, []int{8, 7}},
		{[]int{124, 7999}, []int{0, 8}}, {[]int{125, 7999}, []int{8, 7}},
	} {
		gives(t, []int{1, 3}, c.loud, 9, c.want)
	}
}

func TestTheFirstOfSeveral(t *testing.T) {
	for many := 2; many <= 8; many++ {
		sizes, loud := repeat(4, many), repeat(777, many)
		// Three bits a first pulse each, then two a second one.
		for bits := 0; bits < 3*many; bits += 3 {
			want := append(repeat(1, bits/3), repeat(0, many-bits/3)...)
			gives(t, sizes, loud, bits, want)
		}
		for got := range many {
			want := append(repeat(2, got), repeat(1, many-got)...)
			gives(t, sizes, loud, 3*many+2*got, want)
		}
	}
	// A tie of several pulses and of none: 64 by 64, and 1.
	gives(t, []int{3, 1}, []int{64, 1}, 9, []int{8, 0})
	gives(t, []int{1, 3}, []int{1, 64}, 9, []int{8, 7})
}

func TestASilentBandGetsNone(t *testing.T) {
	gives(t, []int{1, 3}, []int{0, 1}, 400, []int{0, 8})
	gives(t, []int{3, 1}, []int{1, 0}, 400, []int{8, 0})
	for _, sizes := range goodSizes() {
		for at := range sizes {
			for _, bits := range []int{0, 1, 5, 20, 80, 400} {
				loud := place(8000, len(sizes), at, 0)
				got, err := share.Of(sizes, loud, bits)
				if err != nil || got[at] != 0 {
					t.Errorf("Of %v, %v, %d: %v %v, where %d is silent", sizes, loud, bits, got, err, at)
				}
			}
		}
	}
}

func TestWhereAllIsSilent(t *testing.T) {
	for _, sizes := range goodSizes() {
		for _, bits := range someBits() {
			gives(t, sizes, repeat(0, len(sizes)), bits, repeat(0, len(sizes)))
		}
	}
}

func TestWithNoBits(t *testing.T) {
	for _, sizes := range goodSizes() {
		for _, loud := range louds(len(sizes)) {
			gives(t, sizes, loud, 0, repeat(0, len(sizes)))
		}
	}
}

func TestNoMoreThanMaxPulses(t *testing.T) {
	for _, sizes := range goodSizes() {
		full := repeat(8, len(sizes))
		for _, n := range []int{1, 2, 8000} {
			gives(t, sizes, repeat(n, len(sizes)), 400, full)
			gives(t, sizes, repeat(n, len(sizes)), knownCost(sizes, full), full)
		}
	}
	// A full band does not keep others from theirs, however loud it is.
	gives(t, []int{1, 1}, []int{8000, 1}, 2, []int{8, 8})
	gives(t, []int{6, 6}, []int{8000, 1}, 19, []int{8, 1})
	gives(t, []int{6, 6}, []int{8000, 1}, 400, []int{8, 8})
}

func TestWhereTheNextIsTooDear(t *testing.T) {
	// The louder one asks for 4 at once; a pulse of one number asks for 1, and the others for none.
	for bits := 1; bits <= 3; bits++ {
		gives(t, []int{6, 1}, []int{8000, 1}, bits, []int{0, 8})
		gives(t, []int{1, 6}, []int{1, 8000}, bits, []int{8, 0})
	}
	gives(t, []int{6, 1}, []int{8000, 1}, 4, []int{1, 0})
	gives(t, []int{6, 1}, []int{8000, 1}, 5, []int{1, 8})
	// Dear at first, dearer later: 4, then 3 more, and 2 for the softer one.
	gives(t, []int{6, 2}, []int{8000, 1}, 6, []int{1, 1})
	gives(t, []int{6, 2}, []int{8000, 1}, 7, []int{2, 0})
	// Several that are too dear, one behind the other.
	gives(t, []int{6, 5, 4, 2}, []int{8000, 7000, 6000, 5}, 2, []int{0, 0, 0, 1})
	gives(t, []int{6, 5, 3, 2}, []int{8000, 7000, 6000, 5}, 3, []int{0, 0, 1, 0})
	// One that was too dear once stays so, but one more of what costs nothing still goes.
	gives(t, []int{2, 4}, []int{9, 8000}, 4, []int{0, 1})
	gives(t, []int{4, 2, 1}, []int{1, 8000, 1}, 5, []int{0, 8, 0})
	gives(t, []int{4, 2, 1}, []int{1, 8000, 1}, 6, []int{0, 8, 8})
}

func TestNeverMoreThanThereAreAndNoneMoreWouldDo(t *testing.T) {
	eachGood(func(sizes, loud []int, bits int) {
		pulses, err := share.Of(sizes, loud, bits)
		if err != nil || len(pulses) != len(sizes) {
			t.Fatalf("Of %v, %v, %d: %v %v", sizes, loud, bits, pulses, err)
		}
		cost, err := share.Cost(sizes, pulses)
		if err != nil || cost > bits {
			t.Errorf("Of %v, %v, %d: %v costs %d %v", sizes, loud, bits, pulses, cost, err)
		}
		if who := couldHave(sizes, loud, pulses, bits); len(who) > 0 {
			t.Errorf("Of %v, %v, %d: %v, but %v could have one more", sizes, loud, bits, pulses, who)
		}
		if left, err := share.Left(sizes, loud, bits); left != bits-cost || err != nil {
			t.Errorf("Left of %v, %v, %d: %d %v, but the cost is %d", sizes, loud, bits, left, err, cost)
		}
	})
}

func TestLeft(t *testing.T) {
	for _, c := range []struct {
		sizes, loud []int
		bits, want  int
	}{
		{[]int{4, 3}, []int{5, 9}, 2, 2}, {[]int{1}, []int{12}, 56, 55}, {[]int{6}, []int{4}, 12, 0}, {[]int{2}, []int{7}, 1, 1},
		{[]int{5, 1, 2}, []int{7190, 5679, 1020}, 390, 371}, {[]int{1, 3}, []int{2, 15}, 225, 215}, {[]int{6, 6}, []int{0, 0}, 400, 400},
		{repeat(4, 8), repeat(1, 8), 400, 312}, {repeat(4, 8), repeat(1, 8), 88, 0}, {repeat(1, 8), repeat(0, 8), 0, 0},
	} {
		if got, err := share.Left(c.sizes, c.loud, c.bits); got != c.want || err != nil {
			t.Errorf("Left of %v, %v, %d: %d %v, want %d", c.sizes, c.loud, c.bits, got, err, c.want)
		}
	}
}

// TestOneBand has every size and every number of bits: it gets as many as these are enough for.
func TestOneBand(t *testing.T) {
	for size, row := range known {
		for bits := range 401 {
			most := 0
			for k, cost := range row {
				if cost <= bits {
					most = k
				}
			}
			for _, n := range []int{1, 2, 7999, 8000} {
				gives(t, []int{size + 1}, []int{n}, bits, []int{most})
			}
			gives(t, []int{size + 1}, []int{0}, bits, []int{0})
		}
	}
}

func TestAsManyBandsAsMayBe(t *testing.T) {
	loud := []int{800, 700, 600, 500, 400, 300, 200, 100}
	// 800 by 4 is as much as 200, and stands ahead of it; then 175 is too dear.
	gives(t, repeat(4, 8), loud, 20, []int{2, 1, 1, 1, 1, 1, 0, 0})
	gives(t, repeat(4, 8), loud, 24, []int{2, 1, 1, 1, 1, 1, 1, 0})
	gives(t, repeat(1, 8), loud, 3, []int{8, 8, 8, 0, 0, 0, 0, 0})
	gives(t, repeat(1, 8), loud, 8, repeat(8, 8))
	gives(t, repeat(4, 8), loud, 88, repeat(8, 8))
	for bits := range 401 {
		gives(t, []int{6, 1, 6, 2, 6, 3, 6, 2}, loud, bits, told([]int{6, 1, 6, 2, 6, 3, 6, 2}, loud, bits))
	}
}

func TestTwiceAsLoud(t *testing.T) {
	eachGood(func(sizes, loud []int, bits int) {
		half, twice := slices.Clone(loud), slices.Clone(loud)
		for i, n := range loud {
			half[i] = n / 2
			twice[i] = n / 2 * 2
		}
		softer, err := share.Of(sizes, half, bits)
		if err != nil {
			t.Fatalf("Of %v, %v, %d: %v", sizes, half, bits, err)
		}
		gives(t, sizes, twice, bits, softer)
	})
}

func TestLoudAtItsEdges(t *testing.T) {
	for _, sizes := range goodSizes() {
		for at := range sizes {
			for _, n := range []int{0, 1, 7999, 8000} {
				loud := place(5, len(sizes), at, n)
				for _, bits := range []int{0, 10, 400} {
					gives(t, sizes, loud, bits, told(sizes, loud, bits))
				}
			}
			for _, n := range []int{-1, 8001, -2, 8002, -8000, 1 << 32, -1 << 32, math.MaxInt, math.MaxInt - 1, math.MinInt, math.MinInt + 1} {
				for _, bits := range []int{0, 10, 400, -1, 401} {
					givesNone(t, sizes, place(5, len(sizes), at, n), bits, api.ErrRange)
					givesNone(t, sizes, place(0, len(sizes), at, n), bits, api.ErrRange)
				}
			}
		}
	}
}

func TestBitsAtTheirEdges(t *testing.T) {
	for _, sizes := range goodSizes() {
		for _, loud := range louds(len(sizes)) {
			for _, bits := range []int{0, 1, 399, 400} {
				gives(t, sizes, loud, bits, told(sizes, loud, bits))
			}
			for _, bits := range []int{-1, 401, -2, 402, -400, 1 << 32, 1<<32 + 5, -1 << 32, math.MaxInt, math.MaxInt - 1, math.MinInt, math.MinInt + 1} {
				givesNone(t, sizes, loud, bits, api.ErrRange)
			}
		}
	}
}

func TestPulsesAtTheirEdges(t *testing.T) {
	for _, sizes := range goodSizes() {
		for at := range sizes {
			for _, k := range []int{0, 1, 7, 8} {
				pulses := place(3, len(sizes), at, k)
				costs(t, sizes, pulses, knownCost(sizes, pulses))
			}
			for _, k := range []int{-1, 9, -2, 10, -8, 1 << 32, -1 << 32, math.MaxInt, math.MaxInt - 1, math.MinInt, math.MinInt + 1} {
				noCost(t, sizes, place(3, len(sizes), at, k), api.ErrRange)
				noCost(t, sizes, place(0, len(sizes), at, k), api.ErrRange)
			}
		}
	}
}

func TestNotAsMany(t *testing.T) {
	for _, sizes := range goodSizes() {
		for _, many := range []int{0, len(sizes) - 1, len(sizes) + 1, 9, 33, 5000} {
			if many == len(sizes) {
				continue
			}
			// Also with numbers that are none, and with bits that are none: these are told later.
			for _, n := range []int{0, 1, 8, -1, 9, 8001, math.MinInt, math.MaxInt} {
				noCost(t, sizes, repeat(n, many), api.ErrShape)
				for _, bits := range []int{0, 20, 400, -1, 401, math.MinInt, math.MaxInt} {
					givesNone(t, sizes, repeat(n, many), bits, api.ErrShape)
				}
			}
		}
		noCost(t, sizes, nil, api.ErrShape)
		givesNone(t, sizes, nil, 20, api.ErrShape)
	}
}

func TestBadSizesAreToldFirst(t *testing.T) {
	for name, c := range badSizes() {
		t.Run(name, func(t *testing.T) {
			if _, err := band.Check(c.sizes); plain.Told(err) != c.want {
				t.Fatalf("Check of %v: %v, want %v", c.sizes, err, c.want)
			}
			for _, many := range []int{0, 1, len(c.sizes), len(c.sizes) + 1} {
				for _, n := range []int{0, 1, 8, -1, 9, 8001, math.MinInt, math.MaxInt} {
					noCost(t, c.sizes, repeat(n, many), c.want)
					for _, bits := range []int{0, 20, 400, -1, 401, math.MinInt, math.MaxInt} {
						givesNone(t, c.sizes, repeat(n, many), bits, c.want)
					}
				}
			}
		})
	}
}

// TestTheSizesAtTheirEdges holds what is refused of sizes against chapter 9's Check.
func TestTheSizesAtTheirEdges(t *testing.T) {
	for many := range 11 {
		for size := -1; size <= 8; size++ {
			sizes := repeat(size, many)
			_, err := band.Check(sizes)
			if err != nil {
				noCost(t, sizes, repeat(1, many), plain.Told(err))
				givesNone(t, sizes, repeat(1, many), 9, plain.Told(err))
				continue
			}
			costs(t, sizes, repeat(1, many), knownCost(sizes, repeat(1, many)))
			gives(t, sizes, repeat(1, many), 9, told(sizes, repeat(1, many), 9))
		}
	}
}

// numbers has rows that bands may have as pulses or as loud, and others that they may not, nor are they all as many.
func numbers(many int) [][]int {
	return [][]int{some(0, 8, many, 3), some(0, 8000, many, 4), repeat(1, many), repeat(-1, many), repeat(8001, many), repeat(1, many+1), nil}
}

// TestListsAreLeftAlone looks at lists, and at what stands behind their lengths, after each call.
func TestListsAreLeftAlone(t *testing.T) {
	all := goodSizes()
	for _, c := range badSizes() {
		all = append(all, c.sizes)
	}
	for _, sizes := range all {
		for _, l := range numbers(len(sizes)) {
			for _, bits := range []int{-1, 0, 7, 30, 400, 401} {
				wholeSizes, whole := behind(sizes, 2, -77, 9), behind(l, 3, -79, 8002)
				keptSizes, kept := slices.Clone(wholeSizes), slices.Clone(whole)
				share.Cost(wholeSizes[:len(sizes)], whole[:len(l)])
				share.Of(wholeSizes[:len(sizes)], whole[:len(l)], bits)
				share.Left(wholeSizes[:len(sizes)], whole[:len(l)], bits)
				if !slices.Equal(wholeSizes, keptSizes) || !slices.Equal(whole, kept) {
					t.Errorf("%v and %v became %v and %v", keptSizes, kept, wholeSizes, whole)
				}
			}
		}
	}
}

func TestWhatStandsBehindIsNotRead(t *testing.T) {
	sizes, loud, pulses := []int{2, 4, 2, 0, 7}, []int{18, 5, 11, -1, 8001}, []int{6, 1, 8, -1, 9}
	gives(t, sizes[:3], loud[:3], 10, []int{4, 1, 2})
	costs(t, sizes[:3], pulses[:3], 13)
	gives(t, sizes[:1], loud[:1], 10, []int{8})
	costs(t, sizes[:1], pulses[:1], 5)
	givesNone(t, sizes[:0], loud[:0], 10, api.ErrNone)
	noCost(t, sizes[:0], pulses[:0], api.ErrNone)
	givesNone(t, sizes[:3], loud[:2], 10, api.ErrShape)
	noCost(t, sizes[:3], pulses[:2], api.ErrShape)
	givesNone(t, sizes[:2], loud[:3], 10, api.ErrShape)
	noCost(t, sizes[:2], pulses[:3], api.ErrShape)
}

// spoil writes over a list, and over what stands behind it.
func spoil(l []int) {
	l = l[:cap(l)]
	for i := range l {
		l[i] = 99
	}
}

func TestPulsesAreFreshEachTime(t *testing.T) {
	for _, sizes := range goodSizes() {
		for _, loud := range louds(len(sizes)) {
			for _, bits := range []int{0, 9, 30, 400} {
				want := told(sizes, loud, bits)
				givenSizes, given := slices.Clone(sizes), slices.Clone(loud)
				first, _ := share.Of(givenSizes, given, bits)
				second, _ := share.Of(givenSizes, given, bits)
				_ = append(first, 55, 56)
				spoil(first)
				if !slices.Equal(givenSizes, sizes) || !slices.Equal(given, loud) {
					t.Errorf("%v and %v became %v and %v with what came out", sizes, loud, givenSizes, given)
				}
				spoil(givenSizes)
				spoil(given)
				if !slices.Equal(second, want) {
					t.Errorf("Of %v, %v, %d: %v became %v", sizes, loud, bits, want, second)
				}
				gives(t, sizes, loud, bits, want)
			}
		}
	}
}

// TestOneListTwice has the same memory as sizes and as what the bands have.
func TestOneListTwice(t *testing.T) {
	l := []int{1, 2, 3}
	costs(t, l, l, 10)
	got, _ := share.Of(l, l, 400)
	spoil(got)
	gives(t, l, l, 6, told([]int{1, 2, 3}, []int{1, 2, 3}, 6))
	if !slices.Equal(l, []int{1, 2, 3}) {
		t.Errorf("written into: %v", l)
	}
}

func TestCallsAheadChangeNothing(t *testing.T) {
	for range 3 {
		gives(t, []int{2, 4, 2}, []int{18, 5, 11}, 10, []int{4, 1, 2})
		givesNone(t, []int{2, 4, 2}, []int{18, 5, 11}, 401, api.ErrRange)
		givesNone(t, []int{2, 4, 2}, []int{18, 5, -1}, 10, api.ErrRange)
		givesNone(t, []int{2, 4}, []int{18, 5, 11}, 10, api.ErrShape)
		costs(t, []int{2, 4, 2}, []int{6, 1, 8}, 13)
		noCost(t, []int{2, 4, 2}, []int{6, 1, 9}, api.ErrRange)
		noCost(t, []int{2, 4, 2}, []int{6, 1}, api.ErrShape)
		noCost(t, nil, nil, api.ErrNone)
	}
}
