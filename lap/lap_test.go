package lap_test

import (
	"math"
	"slices"
	"testing"

	"pulsehorn/api"
	"pulsehorn/lap"
	"pulsehorn/plain"
)

type turn = func([]int) ([]int, error)

// both has each call by its name.
func both() map[string]turn {
	return map[string]turn{"Forward": lap.Forward, "Inverse": lap.Inverse}
}

// bounds of what each call takes.
func bounds() map[string]int {
	return map[string]int{"Forward": 1000, "Inverse": 4000}
}

// repeat makes a list of one number, so many times.
func repeat(n, many int) []int {
	return slices.Repeat([]int{n}, many)
}

// noughts but for one number, at a place.
func noughts(many, place, n int) []int {
	l := repeat(0, many)
	l[place] = n
	return l
}

// ramp has so many numbers from 0 on, each so much above the one ahead of it.
func ramp(many, step int) []int {
	l := make([]int, many)
	for i := range l {
		l[i] = i * step
	}
	return l
}

// right checks that a call answers a list, and no error.
func right(t *testing.T, name string, l, want []int) {
	t.Helper()
	got, err := both()[name](l)
	if err != nil || !slices.Equal(got, want) {
		t.Errorf("%s of %v: %v %v, want %v", name, l, got, err, want)
	}
}

// refused checks that a call tells an error, and answers nothing else.
func refused(t *testing.T, name string, l []int, want api.Errno) {
	t.Helper()
	got, err := both()[name](l)
	if got != nil || plain.Told(err) != want {
		t.Errorf("%s of %v: %v %v, want %v", name, l, got, err, want)
	}
}

func TestThereAndBackByHand(t *testing.T) {
	for _, c := range []struct{ list, out []int }{
		{[]int{1, 2, 3, 4}, []int{1, 3, 0, 1}},
		{[]int{1, 7, -2, 4, 9, -5}, []int{5, 0, 6, 8, 1, -14}},
		{[]int{100, 94, 100, 100, 79, 79, 78, 78}, []int{97, 101, 82, 78, -6, 11, 1, 0}},
		{ramp(32, 1), slices.Concat(ramp(16, 2), repeat(0, 15), []int{1})},
		{repeat(7, 10), append(repeat(7, 5), repeat(0, 5)...)},
	} {
		right(t, "Forward", c.list, c.out)
		right(t, "Inverse", c.out, c.list)
	}
}

// TestTwo has lists whose first number beside an edge is the last one, too.
func TestTwo(t *testing.T) {
	for _, c := range []struct{ list, out []int }{
		{[]int{0, 0}, []int{0, 0}},
		{[]int{5, 3}, []int{4, -2}},
		{[]int{3, 5}, []int{4, 2}},
		{[]int{0, 1}, []int{1, 1}},
		{[]int{0, -1}, []int{0, -1}},
		{[]int{0, -2}, []int{-1, -2}},
		{[]int{0, -3}, []int{-1, -3}},
		{[]int{-7, -7}, []int{-7, 0}},
		{[]int{-7, -4}, []int{-5, 3}},
	} {
		right(t, "Forward", c.list, c.out)
		right(t, "Inverse", c.out, c.list)
	}
}

// TestRoundedDown has halves and fourth parts with a rest, of numbers below 0 and above.
func TestRoundedDown(t *testing.T) {
	for _, c := range []struct{ list, out []int }{
		{[]int{0, 0, 1, 0}, []int{0, 1, 0, -1}},
		{[]int{0, 0, -1, 0}, []int{1, 0, 1, 1}},
		{[]int{-3, 0, 0, 0}, []int{-2, 1, 2, 0}},
		{[]int{3, -4, -10, -10}, []int{3, -10, 0, 0}},
		{[]int{0, -1, 0, 0}, []int{0, 0, -1, 0}},
		{[]int{0, -2, 0, -1}, []int{-1, -1, -2, -1}},
		{[]int{0, -5, 0, 0}, []int{-2, -1, -5, 0}},
		{[]int{0, 5, 0, 0}, []int{3, 1, 5, 0}},
	} {
		right(t, "Forward", c.list, c.out)
		right(t, "Inverse", c.out, c.list)
	}
}

// TestBesideTheEdges has one number beside the first or the last place, which an edge counts twice.
func TestBesideTheEdges(t *testing.T) {
	for _, c := range []struct{ list, out []int }{
		{[]int{0, 8, 0, 0, 0, 0}, []int{4, 2, 0, 8, 0, 0}},
		{[]int{8, 0, 0, 0, 0, 0}, []int{6, -1, 0, -4, 0, 0}},
		{[]int{0, 0, 0, 8, 0, 0}, []int{0, 2, 2, 0, 8, 0}},
		{[]int{0, 0, 0, 0, 8, 0}, []int{0, -1, 5, 0, -4, -8}},
		{[]int{0, 0, 0, 0, 0, 8}, []int{0, 0, 2, 0, 0, 8}},
	} {
		right(t, "Forward", c.list, c.out)
		right(t, "Inverse", c.out, c.list)
	}
}

func TestNone(t *testing.T) {
	for name := range both() {
		right(t, name, nil, nil)
		right(t, name, []int{}, nil)
		right(t, name, repeat(math.MaxInt, 9)[:0], nil)
	}
}

func TestHowMany(t *testing.T) {
	for name, call := range both() {
		for many := range 70 {
			want := api.OK
			switch {
			case many > 32:
				want = api.ErrFull
			case many%2 == 1:
				want = api.ErrShape
			}
			got, err := call(repeat(0, many))
			if plain.Told(err) != want || want == api.OK && len(got) != many || want != api.OK && got != nil {
				t.Errorf("%s of %d noughts: %v %v, want %v", name, many, got, err, want)
			}
		}
		refused(t, name, repeat(0, 5000), api.ErrFull)
	}
}

func TestTheFirstNamedIsTold(t *testing.T) {
	for name, bound := range bounds() {
		for _, n := range []int{bound + 1, -bound - 1, math.MinInt} {
			refused(t, name, repeat(n, 33), api.ErrFull)
			refused(t, name, repeat(n, 34), api.ErrFull)
			refused(t, name, repeat(n, 31), api.ErrShape)
			refused(t, name, repeat(n, 1), api.ErrShape)
			refused(t, name, repeat(n, 32), api.ErrRange)
			refused(t, name, repeat(n, 2), api.ErrRange)
		}
		refused(t, name, repeat(0, 33), api.ErrFull)
	}
}

func TestNumbersAtTheirEdges(t *testing.T) {
	for name, bound := range bounds() {
		for _, many := range []int{2, 4, 32} {
			for place := range many {
				for _, n := range []int{-bound, bound} {
					if got, err := both()[name](noughts(many, place, n)); err != nil || len(got) != many {
						t.Errorf("%s, %d at %d of %d: %v %v", name, n, place, many, got, err)
					}
				}
				for _, n := range []int{-bound - 1, bound + 1, 1 << 32, math.MaxInt, math.MinInt, math.MinInt + 1} {
					refused(t, name, noughts(many, place, n), api.ErrRange)
				}
			}
		}
	}
}

func TestForwardOfTheGreatest(t *testing.T) {
	for _, c := range []struct{ list, out []int }{
		{[]int{1000, -1000}, []int{0, -2000}},
		{[]int{-1000, 1000}, []int{0, 2000}},
		{[]int{1000, 1000}, []int{1000, 0}},
		{[]int{1000, -1000, 1000, -1000}, []int{0, 0, -2000, -2000}},
		{[]int{-1000, 1000, -1000, 1000}, []int{0, 0, 2000, 2000}},
		{repeat(1000, 32), append(repeat(1000, 16), repeat(0, 16)...)},
		{repeat(-1000, 32), append(repeat(-1000, 16), repeat(0, 16)...)},
	} {
		right(t, "Forward", c.list, c.out)
		right(t, "Inverse", c.out, c.list)
	}
}

// TestInverseOfTheGreatest has even numbers whose sums lie beyond MaxInside: the chapter names no error for these.
func TestInverseOfTheGreatest(t *testing.T) {
	right(t, "Inverse", []int{4000, 4000}, []int{2000, 6000})
	right(t, "Inverse", []int{-4000, -4000}, []int{-2000, -6000})
	right(t, "Inverse", []int{4000, -4000}, []int{6000, 2000})
	right(t, "Inverse", []int{-4000, 4000}, []int{-6000, -2000})
	right(t, "Inverse", []int{4000, 4000, -4000, -4000}, []int{6000, 2000, 6000, 2000})
	right(t, "Inverse", []int{-4000, -4000, 4000, 4000}, []int{-6000, -2000, -6000, -2000})
	right(t, "Inverse", []int{4000, -4000, 4000, 4000}, []int{2000, 2000, -6000, -2000})
	right(t, "Inverse", append(repeat(4000, 16), repeat(-4000, 16)...), slices.Repeat([]int{6000, 2000}, 16))
}

// some makes numbers within a bound, the same ones for the same seed.
func some(many, bound int, seed uint32) []int {
	l := make([]int, many)
	for i := range l {
		seed = seed*1664525 + 1013904223
		l[i] = int(seed>>8)%(2*bound+1) - bound
	}
	return l
}

// part of a number, rounded down.
func part(n, by int) int {
	return int(math.Floor(float64(n) / float64(by)))
}

// lapped is Forward as the chapter tells it, without its bounds.
func lapped(l []int) []int {
	var stay, differences []int
	for i := 1; i < len(l); i += 2 {
		sum := 2 * l[i-1]
		if i+1 < len(l) {
			sum = l[i-1] + l[i+1]
		}
		differences = append(differences, l[i]-part(sum, 2))
	}
	for i := 0; i < len(l); i += 2 {
		sum := 2 * differences[i/2]
		if i > 0 {
			sum = differences[i/2-1] + differences[i/2]
		}
		stay = append(stay, l[i]+part(sum+2, 4))
	}
	return append(stay, differences...)
}

func TestThereAndBackOfSome(t *testing.T) {
	for seed := range uint32(300) {
		for many := 0; many <= 32; many += 2 {
			for _, bound := range []int{1, 9, 1000} {
				l := some(many, bound, seed)
				out := lapped(l)
				right(t, "Forward", l, out)
				right(t, "Inverse", out, l)
			}
		}
	}
}

func TestThereAndBackOfAllFew(t *testing.T) {
	for n := range 9 * 9 * 9 * 9 {
		l := []int{n%9 - 4, n/9%9 - 4, n/81%9 - 4, n/729 - 4}
		out := lapped(l)
		right(t, "Forward", l, out)
		right(t, "Inverse", out, l)
	}
}

func TestBackIsWhatItIsOf(t *testing.T) {
	for seed := range uint32(300) {
		for many := 0; many <= 32; many += 2 {
			l := some(many, 4000, seed)
			if back, err := lap.Inverse(l); err != nil || !slices.Equal(lapped(back), l) {
				t.Errorf("Inverse of %v: %v %v", l, back, err)
			}
		}
	}
}

func TestListsAreLeftAlone(t *testing.T) {
	for name, call := range both() {
		behind := some(24, 300, 7)
		was := slices.Clone(behind)
		got, err := call(behind[:16])
		if err != nil || !slices.Equal(behind, was) {
			t.Errorf("%s: %v, %v became %v", name, err, was, behind)
		}
		first := slices.Clone(got)
		clear(behind)
		if !slices.Equal(got, first) {
			t.Errorf("%s: the answer shares memory with what was handed in", name)
		}
		clear(got[:cap(got)])
		if again, _ := call(was[:16]); !slices.Equal(again, first) {
			t.Errorf("%s: %v, and again %v", name, first, again)
		}
	}
}

func TestRefusedListsAreLeftAlone(t *testing.T) {
	for name := range both() {
		l := noughts(32, 31, 4001)
		refused(t, name, l, api.ErrRange)
		if !slices.Equal(l, noughts(32, 31, 4001)) {
			t.Errorf("%s: it became %v", name, l)
		}
	}
}
