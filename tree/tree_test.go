package tree_test

import (
	"math"
	"slices"
	"testing"

	"pulsehorn/api"
	"pulsehorn/plain"
	"pulsehorn/tree"
)

type turn = func([]int, int) ([]int, error)

// both has each call by its name.
func both() map[string]turn {
	return map[string]turn{"Forward": tree.Forward, "Inverse": tree.Inverse}
}

// repeat makes a list of one number, so many times.
func repeat(n, many int) []int {
	return slices.Repeat([]int{n}, many)
}

// noughts but for one number, at a place.
func noughts(many, place, n int) []int {
	l := repeat(0, many)
	l[place] = n
	return l
}

// ramp has 0, 1, 2 and so on.
func ramp(many int) []int {
	l := make([]int, many)
	for i := range l {
		l[i] = i
	}
	return l
}

// stairs are what five levels make of a ramp of 32.
func stairs() []int {
	return slices.Concat([]int{15, -16}, repeat(-8, 2), repeat(-4, 4), repeat(-2, 8), repeat(-1, 16))
}

// right checks that a call answers a list, and no error.
func right(t *testing.T, name string, l []int, levels int, want []int) {
	t.Helper()
	got, err := both()[name](l, levels)
	if err != nil || !slices.Equal(got, want) {
		t.Errorf("%s of %v, %d: %v %v, want %v", name, l, levels, got, err, want)
	}
}

// refused checks that a call tells an error, and answers nothing else.
func refused(t *testing.T, name string, l []int, levels int, want api.Errno) {
	t.Helper()
	got, err := both()[name](l, levels)
	if got != nil || plain.Told(err) != want {
		t.Errorf("%s of %v, %d: %v %v, want %v", name, l, levels, got, err, want)
	}
}

func TestThereAndBackByHand(t *testing.T) {
	for _, c := range []struct {
		levels    int
		list, out []int
	}{
		{0, []int{7}, []int{7}},
		{0, []int{-3, 5, 1000, -1000, 999}, []int{-3, 5, 1000, -1000, 999}},
		{1, []int{5, 3}, []int{4, 2}},
		{1, []int{3, 5}, []int{4, -2}},
		{1, []int{-1, 0}, []int{-1, -1}},
		{1, []int{0, -1}, []int{-1, 1}},
		{1, []int{-5, 2}, []int{-2, -7}},
		{1, []int{5, 3, -1, 0}, []int{4, -1, 2, -1}},
		{2, []int{5, 3, -1, 0}, []int{1, 5, 2, -1}},
		{1, []int{1, 2, 3, 4, 5, 6}, []int{1, 3, 5, -1, -1, -1}},
		{1, []int{1, 2, 3, 4, 5, 6, 7, 8}, []int{1, 3, 5, 7, -1, -1, -1, -1}},
		{2, []int{1, 2, 3, 4, 5, 6, 7, 8}, []int{2, 6, -2, -2, -1, -1, -1, -1}},
		{3, []int{1, 2, 3, 4, 5, 6, 7, 8}, []int{4, -4, -2, -2, -1, -1, -1, -1}},
		{2, []int{-1, -2, -4, -7, 0, 9, 3, 3, 6, 6, 6, 7}, []int{-4, 3, 6, 4, 1, 0, 1, 3, -9, 0, 0, -1}},
		{3, []int{-1, 0, 0, 0, 0, 0, 0, 0}, []int{-1, -1, -1, 0, -1, 0, 0, 0}},
		{1, []int{1000, -1000, -1000, 1000}, []int{0, 0, 2000, -2000}},
		{2, []int{1000, 1000, -1000, -1000}, []int{0, 2000, 0, 0}},
		{2, []int{1000, 999, -1000, -999}, []int{-1, 1999, 1, -1}},
		{4, repeat(-1000, 16), append([]int{-1000}, repeat(0, 15)...)},
		{5, repeat(1000, 32), append([]int{1000}, repeat(0, 31)...)},
		{5, ramp(32), stairs()},
	} {
		right(t, "Forward", c.list, c.levels, c.out)
		right(t, "Inverse", c.out, c.levels, c.list)
	}
}

func TestNoneAtEachLevel(t *testing.T) {
	for name := range both() {
		for levels := range 6 {
			right(t, name, nil, levels, nil)
			right(t, name, []int{}, levels, nil)
		}
	}
}

// halvings tells how often a number can be halved without a rest, at most five times.
func halvings(n int) int {
	for times := range 5 {
		if n%2 != 0 {
			return times
		}
		n /= 2
	}
	return 5
}

func TestHowMany(t *testing.T) {
	for name, call := range both() {
		for many := 1; many <= 40; many++ {
			for levels := -1; levels <= 6; levels++ {
				want := api.OK
				switch {
				case many > 32:
					want = api.ErrFull
				case levels < 0 || levels > 5:
					want = api.ErrRange
				case levels > halvings(many):
					want = api.ErrShape
				}
				got, err := call(repeat(0, many), levels)
				if plain.Told(err) != want || want == api.OK && len(got) != many || want != api.OK && got != nil {
					t.Errorf("%s of %d noughts, %d: %v %v, want %v", name, many, levels, got, err, want)
				}
			}
		}
	}
}

func TestLevelsThatAreNone(t *testing.T) {
	for name := range both() {
		for _, levels := range []int{-1, 6, -6, 7, 32, 62, 63, 64, 65, 1 << 32, -1 << 32, math.MaxInt, math.MinInt} {
			for _, many := range []int{0, 1, 2, 31, 32} {
				refused(t, name, repeat(0, many), levels, api.ErrRange)
			}
		}
	}
}

func TestTheFirstNamedIsTold(t *testing.T) {
	for name := range both() {
		wrong := func(many int) []int { return repeat(math.MinInt, many) }
		refused(t, name, wrong(33), 6, api.ErrFull)
		refused(t, name, wrong(33), 1, api.ErrFull)
		refused(t, name, wrong(64), 5, api.ErrFull)
		refused(t, name, repeat(0, 64), -1, api.ErrFull)
		refused(t, name, repeat(0, 5000), 3, api.ErrFull)
		refused(t, name, repeat(0, 3), -1, api.ErrRange)
		refused(t, name, repeat(0, 3), 6, api.ErrRange)
		refused(t, name, wrong(3), 1, api.ErrShape)
		refused(t, name, wrong(16), 5, api.ErrShape)
		refused(t, name, wrong(32), 5, api.ErrRange)
	}
}

func TestNumbersAtTheirEdges(t *testing.T) {
	for name, bound := range map[string]int{"Forward": 1000, "Inverse": 2000} {
		for levels := range 6 {
			for _, place := range []int{0, 1, 15, 16, 30, 31} {
				for _, n := range []int{-bound, bound} {
					if got, err := both()[name](noughts(32, place, n), levels); err != nil || len(got) != 32 {
						t.Errorf("%s, %d, %d at %d: %v %v", name, levels, n, place, got, err)
					}
				}
				for _, n := range []int{-bound - 1, bound + 1, 1 << 32, math.MaxInt, math.MinInt, math.MinInt + 1} {
					refused(t, name, noughts(32, place, n), levels, api.ErrRange)
				}
			}
		}
	}
}

// steep has a first half and differences at each level's front, the other numbers are 0.
func steep(first int, fronts ...int) []int {
	l := repeat(0, 1<<len(fronts))
	l[0] = first
	for level, d := range fronts {
		l[1<<level] = d
	}
	return l
}

func TestInverseUpToWhatItMayMake(t *testing.T) {
	right(t, "Inverse", []int{2000, 2000}, 1, []int{3000, 1000})
	right(t, "Inverse", []int{-2000, -2000}, 1, []int{-3000, -1000})
	right(t, "Inverse", steep(2000, 2000, 2000), 2, []int{4000, 2000, 1000, 1000})
	right(t, "Inverse", steep(2000, 2000, -2000), 2, []int{2000, 4000, 1000, 1000})
	right(t, "Inverse", steep(-2000, -2000, -2000), 2, []int{-4000, -2000, -1000, -1000})
	right(t, "Inverse", steep(2000, 2000, 2000, 0), 3, []int{4000, 4000, 2000, 2000, 1000, 1000, 1000, 1000})
	right(t, "Inverse", steep(2000, 2000, 1000, 1000), 3, []int{4000, 3000, 2500, 2500, 1000, 1000, 1000, 1000})
	right(t, "Inverse", steep(-2000, -2000, -2000, 1), 3, []int{-3999, -4000, -2000, -2000, -1000, -1000, -1000, -1000})
	right(t, "Inverse", steep(-2000, -2000, -2000, -1), 3, []int{-4000, -3999, -2000, -2000, -1000, -1000, -1000, -1000})
	right(t, "Inverse", steep(2000, 2000, 2000, 0, 0, 0), 5, slices.Concat(repeat(4000, 8), repeat(2000, 8), repeat(1000, 16)))
}

func TestInverseBeyondWhatItMayMake(t *testing.T) {
	for _, l := range [][]int{
		steep(2000, 2000, 2000, 1), steep(2000, 2000, 2000, -1), steep(2000, 2000, 1000, 1001),
		steep(2000, 2000, 2000, 2000), steep(2000, 2000, 2000, -2000), repeat(2000, 8),
		steep(-2000, -2000, -2000, 2), steep(-2000, -2000, -2000, -2), steep(-2000, -2000, -2000, -2000), repeat(-2000, 8),
	} {
		refused(t, "Inverse", l, 3, api.ErrRange)
		refused(t, "Inverse", append(l, repeat(0, 8)...), 4, api.ErrRange)
		refused(t, "Inverse", append(l, repeat(0, 24)...), 5, api.ErrRange)
	}
	refused(t, "Inverse", steep(2000, 2000, 2000, 0, 1), 4, api.ErrRange)
	refused(t, "Inverse", steep(2000, 2000, 2000, 0, 0, -1), 5, api.ErrRange)
	refused(t, "Inverse", repeat(2000, 32), 5, api.ErrRange)
	refused(t, "Inverse", repeat(-2000, 32), 4, api.ErrRange)
}

// TestInverseBeyondAtAnyPlace has its one fault in the last pair, not in the first one.
func TestInverseBeyondAtAnyPlace(t *testing.T) {
	l := []int{2000, -2000, 0, -2000, 0, 0, 0, 0}
	right(t, "Inverse", l, 3, []int{1000, 1000, 1000, 1000, 2000, 2000, 4000, 4000})
	l[7] = -1
	refused(t, "Inverse", l, 3, api.ErrRange)
}

// some makes numbers within a bound, the same ones for the same seed.
func some(many, bound int, seed uint32) []int {
	l := make([]int, many)
	for i := range l {
		seed = seed*1664525 + 1013904223
		l[i] = int(seed>>8)%(2*bound+1) - bound
	}
	return l
}

// turned is Forward as the chapter tells it, from the halves down.
func turned(l []int, levels int) []int {
	if levels == 0 {
		return l
	}
	var halves, differences []int
	for chunk := range slices.Chunk(l, 2) {
		halves = append(halves, int(math.Floor(float64(chunk[0]+chunk[1])/2)))
		differences = append(differences, chunk[0]-chunk[1])
	}
	return append(turned(halves, levels-1), differences...)
}

func TestThereAndBackOfSome(t *testing.T) {
	for seed := range uint32(300) {
		for levels := range 6 {
			for many := 0; many <= 32; many += 1 << levels {
				for _, bound := range []int{1, 9, 1000} {
					l := some(many, bound, seed)
					out := turned(l, levels)
					right(t, "Forward", l, levels, out)
					right(t, "Inverse", out, levels, l)
				}
			}
		}
	}
}

func TestBackIsWhatItIsOf(t *testing.T) {
	for seed := range uint32(300) {
		for levels := range 6 {
			l := some(32, 2000, seed)
			back, err := tree.Inverse(l, levels)
			far := func(n int) bool { return n < -4000 || n > 4000 }
			if err == nil && (slices.ContainsFunc(back, far) || !slices.Equal(turned(back, levels), l)) {
				t.Errorf("Inverse of %v, %d: %v", l, levels, back)
			}
			if err != nil && plain.Told(err) != api.ErrRange {
				t.Errorf("Inverse of %v, %d: %v", l, levels, err)
			}
		}
	}
}

func TestListsAreLeftAlone(t *testing.T) {
	for name, call := range both() {
		for levels := range 4 {
			behind := some(24, 300, 7)
			was := slices.Clone(behind)
			got, err := call(behind[:16], levels)
			if err != nil || !slices.Equal(behind, was) {
				t.Errorf("%s, %d: %v, %v became %v", name, levels, err, was, behind)
			}
			first := slices.Clone(got)
			clear(behind)
			if !slices.Equal(got, first) {
				t.Errorf("%s, %d: the answer shares memory with what was handed in", name, levels)
			}
			clear(got[:cap(got)])
			if again, _ := call(was[:16], levels); !slices.Equal(again, first) {
				t.Errorf("%s, %d: %v, and again %v", name, levels, first, again)
			}
		}
	}
}

func TestRefusedListsAreLeftAlone(t *testing.T) {
	l := steep(2000, 2000, 2000, 1)
	was := slices.Clone(l)
	refused(t, "Inverse", l, 3, api.ErrRange)
	if !slices.Equal(l, was) {
		t.Errorf("%v became %v", was, l)
	}
}
