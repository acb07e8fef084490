package frame_test

import (
	"math"
	"slices"
	"testing"

	"pulsehorn/api"
	"pulsehorn/frame"
	"pulsehorn/lap"
)

func TestSomeFramesDecoded(t *testing.T) {
	for _, c := range []struct {
		l    []api.Part
		want []int
	}{
		// 44 in 8 pulses: 22 and 22, turned back.
		{parts(part(22, 4, 4)), []int{11, 33}},
		{parts(part(22, -4, -4)), []int{-11, -33}},
		{parts(part(22, 1, 0)), []int{44, 44}},
		{parts(part(22, 0, 1)), []int{-22, 22}},
		{parts(part(7, 8), part(7, 8, 0, 0)), []int{3, 3, 3, 3}},
		{parts(part(27, 4, 4, 0, 0)), []int{52, 52, 52, 52}},
		{parts(part(46, 2, 1, 2, 0, 0, 0)), []int{1126, 844, 563, 844, 1126, 1126}},
		{parts(part(41, 7, -1)), []int{1080, 936}},
		{parts(part(19, -8), part(19, -7, 0, -1)), []int{-26, -24, -21, -24}},
		{parts(part(11, -2, -1, 0, -1), part(1, 0, -1)), []int{-3, -3, -1, -1, 0, -1}},
	} {
		tells(t, c.l, c.want...)
	}
}

func TestDecodeAsTheChapterTells(t *testing.T) {
	eachFrame(t, func(l []api.Part, _ []int, _ int) {
		numbers := heard(l)
		if slices.ContainsFunc(numbers, func(n int) bool { return n < -4000 || n > 4000 }) {
			tellsNone(t, l, api.ErrRange)
			return
		}
		tells(t, l, unlapped(numbers)...)
		if want, err := lap.Inverse(numbers); err != nil || !slices.Equal(want, unlapped(numbers)) {
			t.Errorf("Inverse of %v: %v %v", numbers, want, err)
		}
	})
}

// TestEachPulseTimesTheValue has each Gain, and each pulse of each number of them, on both sides of 0.
func TestEachPulseTimesTheValue(t *testing.T) {
	for g, v := range values {
		if v < 0 {
			continue
		}
		for k := 1; k <= 8; k++ {
			for p := range k + 1 {
				far, rest := p*v/k, (k-p)*v/k
				l := parts(part(g, p, k-p))
				if far > 4000 || rest > 4000 {
					tellsNone(t, l, api.ErrRange)
					tellsNone(t, parts(part(g, -p, k-p)), api.ErrRange)
					tellsNone(t, parts(part(g, p, p-k)), api.ErrRange)
					continue
				}
				tells(t, l, unlapped([]int{far, rest})...)
				tells(t, parts(part(g, -p, k-p)), unlapped([]int{-far, rest})...)
				tells(t, parts(part(g, p, p-k)), unlapped([]int{far, -rest})...)
				tells(t, parts(part(g, -p, p-k)), unlapped([]int{-far, -rest})...)
			}
		}
	}
}

func TestRoundedTowards0(t *testing.T) {
	// 4 in thirds: 1 1/3 and 2 2/3, which are 1 and 2, and below 0 -1 and -2; rounded down they would be -2 and -3.
	tells(t, parts(part(9, 1, 2)), 0, 2)
	tells(t, parts(part(9, -1, -2)), 0, -2)
	tells(t, parts(part(9, -1), part(9, 0)), -4, -4)
	// 1 in two halves, either side of 0: noughts.
	tells(t, parts(part(1, 1, 1)), 0, 0)
	tells(t, parts(part(1, -1, -1)), 0, 0)
	tells(t, parts(part(1, -1, 1)), 0, 0)
	// 7 in eighths: 7/8 is 0, and 6 1/8 is 6.
	tells(t, parts(part(12, -1, 0), part(12, -7, -1)), unlapped([]int{-7, 0, -6, 0})...)
	tells(t, parts(part(12, 1, 0), part(12, 7, 1)), unlapped([]int{7, 0, 6, 0})...)
}

// TestByThePulsesOfItsOwnPart has Parts of other numbers of pulses beside each other.
func TestByThePulsesOfItsOwnPart(t *testing.T) {
	tells(t, parts(part(21, 1, 1), part(21, 1, 3)), unlapped([]int{18, 18, 9, 27})...)
	tells(t, parts(part(21, 0, 0), part(25, 0, -8)), unlapped([]int{0, 0, 0, -72})...)
	// A number alone has the whole Value, however many pulses tell it.
	for k := 1; k <= 8; k++ {
		tells(t, parts(part(25, k), part(0, 0)), 72, 72)
		tells(t, parts(part(25, -k), part(0, 0)), -72, -72)
	}
}

func TestAPartWithoutPulses(t *testing.T) {
	for g, v := range values {
		if v < 0 {
			continue
		}
		tells(t, parts(part(g, 0, 0)), 0, 0)
		tells(t, parts(part(g, repeat(0, 6)...)), repeat(0, 6)...)
		tells(t, parts(part(g, 0), part(25, 8)), unlapped([]int{0, 72})...)
		tells(t, parts(part(25, 8), part(g, 0)), unlapped([]int{72, 0})...)
		tells(t, parts(part(g), part(25, 8, 0)), unlapped([]int{72, 0})...)
	}
	// And one of Gain 0 with pulses.
	tells(t, parts(part(0, 4, -4)), 0, 0)
	tells(t, parts(part(0, 1, -7), part(25, 8, 0)), unlapped([]int{0, 0, 72, 0})...)
}

func TestAPartWithoutNumbers(t *testing.T) {
	tells(t, parts(part(0)))
	tells(t, parts(part(52)))
	tells(t, slices.Repeat(parts(part(9)), 8))
	tells(t, parts(part(9), part(22, 4, 4), part(9)), 11, 33)
	tellsNone(t, slices.Repeat(parts(part(9)), 9), api.ErrFull)
	for _, g := range wrongGains() {
		tellsNone(t, parts(part(g)), api.ErrRange)
		tellsNone(t, parts(part(22, 4, 4), part(g)), api.ErrRange)
	}
}

// TestOneBehindTheOther cuts the same numbers in other ways.
func TestOneBehindTheOther(t *testing.T) {
	want := unlapped([]int{72, -36, 9, -4})
	tells(t, parts(part(25, 1), part(21, -1), part(13, 1), part(9, -1)), want...)
	tells(t, parts(part(25, 1, 0), part(21, 0, 0)), unlapped([]int{72, 0, 0, 0})...)
	tells(t, parts(part(25, 2), part(21, -5, 0, 0)), unlapped([]int{72, -36, 0, 0})...)
	tells(t, parts(part(25, 0, 0, 2), part(21, -5)), unlapped([]int{0, 0, 72, -36})...)
	// Turned back all at once, and not Part by Part.
	tells(t, parts(part(25, 1, 0), part(25, 1, 0)), unlapped([]int{72, 0, 72, 0})...)
	tells(t, parts(part(25, 1, 0), part(25, 1, 0)), 36, 81, -18, -18)
}

func TestSilenceIsToldAsSilence(t *testing.T) {
	for many := 2; many <= 32; many += 2 {
		var l []api.Part
		for left := many; left > 0; left -= 4 {
			l = append(l, part(0, repeat(0, min(left, 4))...))
		}
		tells(t, l, repeat(0, many)...)
	}
}

// TestAsLoud holds what is told against how loud each band was: within an eighth, and what rounding takes.
func TestAsLoud(t *testing.T) {
	eachSound(func(l, sizes []int, bits int) {
		made, err := frame.Encode(l, sizes, bits)
		if err != nil {
			return
		}
		back, err := frame.Decode(made)
		if err != nil {
			return
		}
		bands := cut(lapped(l), sizes)
		for i, b := range cut(lapped(back), sizes) {
			if loudOf(made[i].Pulses) == 0 {
				if loudOf(b) != 0 {
					t.Errorf("%v of %v has no pulses, but is told as %v", made[i], l, b)
				}
				continue
			}
			was, is := loudOf(bands[i]), loudOf(b)
			if 8*(is-was) > was || 8*(was-is) > was+8*sizes[i] {
				t.Errorf("%v of %v was as loud as %d, and is told as %d", made[i], l, was, is)
			}
		}
	})
}

func TestHowManyParts(t *testing.T) {
	tellsNone(t, nil, api.ErrNone)
	tellsNone(t, []api.Part{}, api.ErrNone)
	one := parts(part(25, 8))
	tells(t, slices.Repeat(one, 2), unlapped(repeat(72, 2))...)
	tells(t, slices.Repeat(one, 8), unlapped(repeat(72, 8))...)
	tellsNone(t, slices.Repeat(one, 9), api.ErrFull)
	tellsNone(t, slices.Repeat(one, 10), api.ErrFull)
	tellsNone(t, slices.Repeat(one, 5000), api.ErrFull)
}

func TestHowManyNumbers(t *testing.T) {
	six, four := part(0, repeat(0, 6)...), part(0, repeat(0, 4)...)
	tells(t, slices.Repeat(parts(four), 8), repeat(0, 32)...)
	tells(t, append(slices.Repeat(parts(six), 5), part(0, 0, 0)), repeat(0, 32)...)
	tellsNone(t, append(slices.Repeat(parts(six), 5), part(0, 0, 0, 0)), api.ErrFull)
	tellsNone(t, append(slices.Repeat(parts(four), 7), part(0, repeat(0, 5)...)), api.ErrFull)
	tellsNone(t, slices.Repeat(parts(six), 8), api.ErrFull)
	// More than MaxBand in one Part, though not more than MaxSound in all.
	tells(t, parts(six), repeat(0, 6)...)
	for _, many := range []int{7, 8, 31, 32, 33, 5000} {
		tellsNone(t, parts(part(0, repeat(0, many)...)), api.ErrFull)
	}
}

func TestAnOddNumberOfNumbers(t *testing.T) {
	tellsNone(t, parts(part(0, 0)), api.ErrShape)
	tellsNone(t, parts(part(22, 4, 3, 1)), api.ErrShape)
	tellsNone(t, parts(part(22, 4, 4), part(22, 8)), api.ErrShape)
	tellsNone(t, append(slices.Repeat(parts(part(0, repeat(0, 6)...)), 5), part(0, 0)), api.ErrShape)
	tells(t, parts(part(22, 8), part(0, 0)), 44, 44)
}

func TestHowFarANumberMayBeTold(t *testing.T) {
	// 3840 alone, and then 4608.
	tells(t, parts(part(48, 8), part(0, 0)), 3840, 3840)
	tells(t, parts(part(48, -8), part(0, 0)), -3840, -3840)
	tells(t, parts(part(0, 0), part(48, 8)), -1920, 1920)
	tells(t, parts(part(0, 0), part(48, -8)), 1920, -1920)
	for _, n := range []int{8, -8, 1, -1} {
		tellsNone(t, parts(part(49, n), part(0, 0)), api.ErrRange)
		tellsNone(t, parts(part(0, 0), part(49, n)), api.ErrRange)
		tellsNone(t, parts(part(52, n, 0)), api.ErrRange)
	}
	// The nearest to 4000 that pulses tell: 3993 of 6656 3/5, and 4022 of 5632 5/7.
	tells(t, parts(part(51, 3, -2)), unlapped([]int{3993, -2662})...)
	tells(t, parts(part(51, -3, 2)), unlapped([]int{-3993, 2662})...)
	tellsNone(t, parts(part(50, 5, 2)), api.ErrRange)
	tellsNone(t, parts(part(50, -5, -2)), api.ErrRange)
	// The loudest there is, in several numbers.
	tells(t, parts(part(52, 4, 4)), unlapped([]int{3840, 3840})...)
	tellsNone(t, parts(part(52, 5, 3)), api.ErrRange)
	// Turned back a number may be beyond it.
	tells(t, parts(part(48, 8), part(48, 8)), 1920, 5760)
	tells(t, parts(part(48, -8), part(48, -8)), -1920, -5760)
}

// TestWhatIsMadeMayBeTooLoudForOneNumber has a frame that is right, but of which one pulse tells all that several numbers were.
func TestWhatIsMadeMayBeTooLoudForOneNumber(t *testing.T) {
	l, sizes := inTurn(-1000, 1000, 8), []int{4, 4}
	made, err := frame.Encode(l, sizes, 3)
	if want := parts(part(0, 0, 0, 0, 0), part(52, 1, 0, 0, 0)); err != nil || !alike(made, want) {
		t.Fatalf("Encode of %v: %v %v, want %v", l, made, err, want)
	}
	checks(t, made, sizes, 3, api.OK)
	tellsNone(t, made, api.ErrRange)
}

func TestWrongGainsForDecode(t *testing.T) {
	for _, g := range wrongGains() {
		tellsNone(t, parts(part(g, 0, 0)), api.ErrRange)
		tellsNone(t, parts(part(g, 4, 4)), api.ErrRange)
		tellsNone(t, parts(part(22, 4, 4), part(g, 0, 0)), api.ErrRange)
	}
}

func TestWrongPulsesForDecode(t *testing.T) {
	tells(t, parts(part(25, 8, 0)), 72, 72)
	tells(t, parts(part(25, -8, 0)), -72, -72)
	for _, n := range []int{9, -9, 10, 1 << 32, -1 << 32, math.MaxInt, math.MinInt, math.MinInt + 1} {
		tellsNone(t, parts(part(25, n, 0)), api.ErrRange)
		tellsNone(t, parts(part(25, 0, n)), api.ErrRange)
		tellsNone(t, parts(part(0, n, n)), api.ErrRange)
		tellsNone(t, parts(part(0, n, -n)), api.ErrRange)
		tellsNone(t, parts(part(25, 8, 0), part(25, n)), api.ErrRange)
	}
	tellsNone(t, parts(part(25, 8, 1)), api.ErrFull)
	tellsNone(t, parts(part(25, 5, -4)), api.ErrFull)
	tellsNone(t, parts(part(25, 8, 8)), api.ErrFull)
	tellsNone(t, parts(part(25, 2, 2, 2, 1, 1, -1)), api.ErrFull)
	tells(t, parts(part(25, 2, 2, 2, 1, 1, 0)), unlapped([]int{18, 18, 18, 9, 9, 0})...)
}

func TestTheFirstNamedIsToldByDecode(t *testing.T) {
	// Too many Parts, or numbers, go ahead of what is wrong with one.
	tellsNone(t, slices.Repeat(parts(part(-1, 9)), 9), api.ErrFull)
	tellsNone(t, parts(part(-1, 9), part(0, repeat(0, 32)...)), api.ErrFull)
	tellsNone(t, parts(part(-1, repeat(9, 33)...)), api.ErrFull)
	// Of one Part the pulses go ahead of the Gain.
	tellsNone(t, parts(part(-1, 8, 1)), api.ErrFull)
	tellsNone(t, parts(part(53, repeat(9, 7)...)), api.ErrFull)
	tellsNone(t, parts(part(22, 4, 4), part(2, 8, 8)), api.ErrFull)
	// Of several the first goes ahead, whichever of its two is wrong.
	tellsNone(t, parts(part(53, 0, 0), part(0, 8, 1)), api.ErrRange)
	tellsNone(t, parts(part(53, 0, 0), part(0, repeat(0, 7)...)), api.ErrRange)
	tellsNone(t, parts(part(0, 9), part(0, repeat(0, 7)...)), api.ErrRange)
	tellsNone(t, parts(part(0, 8, 1), part(53, 0)), api.ErrFull)
	tellsNone(t, parts(part(0, 8, 1), part(0, 9)), api.ErrFull)
	tellsNone(t, parts(part(0, repeat(0, 7)...), part(53, 0)), api.ErrFull)
	tellsNone(t, parts(part(0, repeat(0, 7)...), part(0, 9)), api.ErrFull)
	// Parts go ahead of an odd number of numbers, and this of a number that is told too far from 0.
	tellsNone(t, parts(part(53, 0)), api.ErrRange)
	tellsNone(t, parts(part(0, 9)), api.ErrRange)
	tellsNone(t, parts(part(0, 8, 1, 0)), api.ErrFull)
	tellsNone(t, parts(part(52, 8)), api.ErrShape)
	tellsNone(t, parts(part(52, 8), part(52, -8), part(0, 0)), api.ErrShape)
	tellsNone(t, parts(part(52, 8), part(52, -8)), api.ErrRange)
	// Nor does a number that is told too far from 0 go ahead of what is wrong with a Part behind.
	tellsNone(t, parts(part(52, 8), part(0, 8, 1, 0)), api.ErrFull)
}
