package frame_test

import (
	"math"
	"slices"
	"testing"

	"pulsehorn/api"
	"pulsehorn/band"
	"pulsehorn/frame"
	"pulsehorn/gain"
	"pulsehorn/lap"
	"pulsehorn/near"
	"pulsehorn/plain"
	"pulsehorn/share"
	"pulsehorn/sound"
)

func TestSomeFrames(t *testing.T) {
	for _, c := range []struct {
		l, sizes []int
		bits     int
		want     []api.Part
	}{
		// Lapped 20 20, as loud as 40, which is told as 44: with 2 bits one pulse, with 3 two, with 5 all.
		{[]int{10, 30}, []int{2}, 1, parts(part(22, 0, 0))},
		{[]int{10, 30}, []int{2}, 2, parts(part(22, 1, 0))},
		{[]int{10, 30}, []int{2}, 3, parts(part(22, 1, 1))},
		{[]int{10, 30}, []int{2}, 5, parts(part(22, 4, 4))},
		{[]int{-10, -30}, []int{2}, 5, parts(part(22, -4, -4))},
		// In bands of one number each has its sign only, and the first goes first.
		{[]int{10, 30}, []int{1, 1}, 0, parts(part(18, 0), part(18, 0))},
		{[]int{10, 30}, []int{1, 1}, 1, parts(part(18, 8), part(18, 0))},
		{[]int{10, 30}, []int{1, 1}, 2, parts(part(18, 8), part(18, 8))},
		// Lapped 12 12 12 and 4 0 0: by 36, 9, 4 the first has three pulses, for 6 bits, then by 4 the second has one, for 3.
		{[]int{10, 14, 11, 11, 12, 12}, []int{3, 3}, 9, parts(part(21, 1, 1, 1), part(9, 1, 0, 0))},
		{[]int{-50, -50, -50, -50}, []int{1, 3}, 11, parts(part(23, -8), part(23, -8, 0, 0))},
		{[]int{-6, 2, -4, -2}, []int{4}, 14, parts(part(15, -1, -1, 5, 1))},
		{[]int{-3, -2}, []int{2}, 1, parts(part(7, 0, 0))},
		{[]int{-3, -3, -3, -3, -3, -3, -3, 3}, []int{2, 4, 2}, 10, parts(part(11, -2, -2), part(9, -1, 0, 0, 0), part(11, 0, 2))},
		{[]int{-10, -14, 422, 865}, []int{1, 3}, 225, parts(part(28, -8), part(41, 3, -2, 3))},
	} {
		makes(t, c.l, c.sizes, c.bits, c.want)
	}
}

func TestEncodeAsTheChapterTells(t *testing.T) {
	eachSound(func(l, sizes []int, bits int) {
		want, err := told(t, l, sizes, bits)
		if err != nil {
			makesNone(t, l, sizes, bits, plain.Told(err))
			return
		}
		makes(t, l, sizes, bits, want)
	})
}

// TestEncodeByTheLayers holds Encode against the packages of the chapters, as far as they take numbers.
func TestEncodeByTheLayers(t *testing.T) {
	held := 0
	eachSound(func(l, sizes []int, bits int) {
		turned, _ := lap.Forward(l)
		if sound.Check(turned) != nil {
			return
		}
		held++
		bands, err := band.Split(turned, sizes)
		if err != nil {
			t.Fatalf("Split of %v, %v: %v", turned, sizes, err)
		}
		var want []api.Part
		var loud []int
		for _, b := range bands {
			n, _ := sound.Loud(b)
			g, _ := gain.Index(n)
			v, _ := gain.Value(g)
			want, loud = append(want, part(g)), append(loud, v)
		}
		pulses, _ := share.Of(sizes, loud, bits)
		for i, b := range bands {
			if want[i].Pulses, err = near.Of(b, pulses[i]); err != nil {
				t.Fatalf("Of %v, %d: %v", b, pulses[i], err)
			}
		}
		makes(t, l, sizes, bits, want)
	})
	if held < 1000 {
		t.Errorf("only %d frames were held against the layers", held)
	}
}

func TestLappedFirstAndThenCut(t *testing.T) {
	// All that stays, 5 and 5, and then both differences, 0 and 0: cut first, each half would have one of either.
	makes(t, []int{5, 5, 5, 5}, []int{2, 2}, 400, parts(part(14, 4, 4), part(0, 0, 0)))
	// Differences 50 and 0, and what stays is 25 and 113: over the edge between the two bands.
	makes(t, []int{0, 100, 100, 100}, []int{2, 2}, 400, parts(part(29, 1, 7), part(23, 8, 0)))
	// Differences -50 and 0, and what stays is -25 and 88: within each half it would be 0 0 and 100 0.
	makes(t, []int{0, 0, 100, 100}, []int{2, 2}, 400, parts(part(28, -2, 6), part(23, -8, 0)))
}

func TestGainIsTheIndexOfLoud(t *testing.T) {
	// Two alike are lapped to one of them, and nothing.
	for n := range 1001 {
		want := gainOf(n)
		for _, l := range [][]int{{n, n}, {-n, -n}} {
			got, err := frame.Encode(l, []int{1, 1}, 0)
			if err != nil || !alike(got, parts(part(want, 0), part(0, 0))) {
				t.Errorf("Encode of %v: %v %v, want Gain %d", l, got, err, want)
			}
			got, err = frame.Encode(l, []int{2}, 400)
			if err != nil || len(got) != 1 || got[0].Gain != want {
				t.Errorf("Encode of %v: %v %v, want Gain %d", l, got, err, want)
			}
		}
	}
}

func TestLoudIsHowFarFrom0WhateverTheSign(t *testing.T) {
	// Lapped 3 and -8, which are 11: their sum would be 5, and told as less.
	makes(t, []int{7, -1}, []int{2}, 0, parts(part(14, 0, 0)))
	makes(t, []int{-7, 1}, []int{2}, 0, parts(part(14, 0, 0)))
	makes(t, []int{7, -1}, []int{2}, 400, parts(part(14, 2, -6)))
}

func TestNumbersBeyondMaxValue(t *testing.T) {
	// Lapped 0 -2000, and 0 2000.
	makes(t, []int{1000, -1000}, []int{2}, 400, parts(part(44, 0, -8)))
	makes(t, []int{-1000, 1000}, []int{2}, 400, parts(part(44, 0, 8)))
	makes(t, []int{-1000, 1000}, []int{1, 1}, 400, parts(part(0, 0), part(44, 8)))
	// A difference of 1000, and one of one more than a sample may be.
	makes(t, []int{0, 1000}, []int{1, 1}, 400, parts(part(36, 8), part(40, 8)))
	makes(t, []int{-1, 1000}, []int{1, 1}, 400, parts(part(36, 8), part(40, 8)))
	// Lapped 0 -125 and 2000 1500, of which the shares are 4 4/7 and 3 3/7.
	makes(t, []int{-1000, 1000, -1000, 500}, []int{2, 2}, 400, parts(part(28, 0, -8), part(47, 5, 3)))
	// What stays may be beyond it, too: lapped 1500 -250 and 1000 2000.
	makes(t, []int{1000, 1000, -1000, 1000}, []int{1, 1, 2}, 400, parts(part(42, 8), part(32, -8), part(46, 3, 5)))
	makes(t, []int{-1000, -1000, 1000, -1000}, []int{1, 1, 2}, 400, parts(part(42, -8), part(32, 8), part(46, -3, -5)))
}

// mustTell is told, of samples of which nothing is wrong.
func mustTell(t *testing.T, l, sizes []int, bits int) []api.Part {
	t.Helper()
	made, err := told(t, l, sizes, bits)
	if err != nil {
		t.Fatalf("told of %v, %v, %d: %v", l, sizes, bits, err)
	}
	return made
}

func TestPulsesGoByTheValuesOfTheGains(t *testing.T) {
	// Lapped 8 and 9, which have one Gain: so the first has the bit, though it is softer.
	makes(t, []int{3, 12}, []int{1, 1}, 1, parts(part(13, 8), part(13, 0)))
	// Lapped 9 and 8: again the first.
	makes(t, []int{5, 13}, []int{1, 1}, 1, parts(part(13, 8), part(13, 0)))
	// Of Values 36 and 4 the first has three pulses for 6 bits; of the Gains themselves, 21 and 9, each would have one.
	makes(t, []int{10, 14, 11, 11, 12, 12}, []int{3, 3}, 6, parts(part(21, 1, 1, 1), part(9, 0, 0, 0)))
}

// TestPulsesAreThoseOfChapter14 counts the pulses of each band.
func TestPulsesAreThoseOfChapter14(t *testing.T) {
	eachSound(func(l, sizes []int, bits int) {
		got, err := frame.Encode(l, sizes, bits)
		if err != nil {
			return
		}
		var loud, has []int
		for _, p := range got {
			loud, has = append(loud, values[p.Gain]), append(has, loudOf(p.Pulses))
		}
		if want, _ := share.Of(sizes, loud, bits); !slices.Equal(has, want) {
			t.Errorf("Encode of %v, %v, %d: %v has pulses %v, want %v", l, sizes, bits, got, has, want)
		}
		if cost, err := share.Cost(sizes, has); cost > bits || err != nil {
			t.Errorf("Encode of %v, %v, %d: %v costs %d %v", l, sizes, bits, got, cost, err)
		}
	})
}

func TestASilentBand(t *testing.T) {
	// Nothing differs, so the band of the differences is silent, and its bits go to the other one.
	makes(t, repeat(9, 4), []int{2, 2}, 400, parts(part(17, 4, 4), part(0, 0, 0)))
	makes(t, repeat(9, 4), []int{2, 2}, 5, parts(part(17, 4, 4), part(0, 0, 0)))
	makes(t, repeat(-1000, 12), []int{6, 6}, 15, parts(part(50, -2, -2, -1, -1, -1, -1), part(0, repeat(0, 6)...)))
	// What stays is silent, and the differences are not.
	makes(t, inTurn(1000, -1000, 4), []int{2, 2}, 5, parts(part(0, 0, 0), part(48, -4, -4)))
	// Several ahead of one that is not: lapped 0, 0 and -2000 -2000.
	makes(t, []int{1000, -1000, 1000, -1000}, []int{1, 1, 2}, 400, parts(part(0, 0), part(0, 0), part(48, -4, -4)))
	// Behind those that are not: lapped 25 113, 50 and 0; and 5 5 5 and three of 0.
	makes(t, []int{0, 100, 100, 100}, []int{2, 1, 1}, 400, parts(part(29, 1, 7), part(23, 8), part(0, 0)))
	makes(t, repeat(5, 6), []int{3, 1, 1, 1}, 400, parts(part(16, 3, 3, 2), part(0, 0), part(0, 0), part(0, 0)))
	eachSound(func(l, sizes []int, bits int) {
		got, _ := frame.Encode(l, sizes, bits)
		for i := range got {
			silent := loudOf(cut(lapped(l), sizes)[i]) == 0
			if silent != (got[i].Gain == 0) || silent && !slices.Equal(got[i].Pulses, repeat(0, sizes[i])) {
				t.Errorf("Encode of %v, %v, %d: %v, of which %d is silent: %t", l, sizes, bits, got, i, silent)
			}
		}
	})
}

func TestSilence(t *testing.T) {
	for _, sizes := range evenSizes() {
		var want []api.Part
		for _, n := range sizes {
			want = append(want, part(0, repeat(0, n)...))
		}
		for _, bits := range someBits() {
			makes(t, repeat(0, total(sizes)), sizes, bits, want)
			checks(t, want, sizes, bits, api.OK)
		}
		tells(t, want, repeat(0, total(sizes))...)
	}
}

func TestNoBits(t *testing.T) {
	for _, sizes := range evenSizes() {
		for _, l := range sounds(total(sizes)) {
			got, err := frame.Encode(l, sizes, 0)
			if err != nil {
				continue
			}
			for i, b := range cut(lapped(l), sizes) {
				if got[i].Gain != gainOf(loudOf(b)) || !slices.Equal(got[i].Pulses, repeat(0, sizes[i])) {
					t.Errorf("Encode of %v, %v, 0: %v", l, sizes, got)
				}
			}
		}
	}
}

func TestMaxBits(t *testing.T) {
	for _, sizes := range evenSizes() {
		for _, l := range sounds(total(sizes)) {
			got, err := frame.Encode(l, sizes, api.MaxBits)
			if err != nil {
				continue
			}
			for i, p := range got {
				// They are enough for all pulses that may be.
				want := min(loudOf(cut(lapped(l), sizes)[i]), 1) * 8
				if has := loudOf(p.Pulses); has != want {
					t.Errorf("Encode of %v, %v, %d: %v, of which %d has %d pulses, want %d", l, sizes, api.MaxBits, got, i, has, want)
				}
			}
		}
	}
}

func TestHowLoudABandMayBe(t *testing.T) {
	// Differences of 2000 each, and what stays is 0: four are MaxInside, five are above.
	makes(t, inTurn(-1000, 1000, 8), []int{4, 4}, 400, parts(part(0, 0, 0, 0, 0), part(52, 2, 2, 2, 2)))
	makes(t, inTurn(1000, -1000, 8), []int{4, 4}, 400, parts(part(0, 0, 0, 0, 0), part(52, -2, -2, -2, -2)))
	makesNone(t, inTurn(-1000, 1000, 10), []int{5, 5}, 400, api.ErrFull)
	makesNone(t, inTurn(1000, -1000, 10), []int{5, 5}, 400, api.ErrFull)
	makesNone(t, inTurn(-1000, 1000, 12), []int{6, 6}, 0, api.ErrFull)
	// As loud in all, but no band is.
	makes(t, inTurn(-1000, 1000, 10), []int{5, 4, 1}, 0, parts(part(0, repeat(0, 5)...), part(52, 0, 0, 0, 0), part(44, 0)))
	// Four differences of 2000, and one of 0, or one of 1: 8000, and one more.
	makes(t, append(inTurn(-1000, 1000, 9), -1000), []int{5, 5}, 10, parts(part(36, 0, 0, 0, 0, 0), part(52, 2, 1, 1, 1, 0)))
	makesNone(t, append(inTurn(-1000, 1000, 9), -999), []int{5, 5}, 10, api.ErrFull)
	makes(t, append(inTurn(1000, -1000, 9), 1000), []int{5, 5}, 10, parts(part(36, 0, 0, 0, 0, 0), part(52, -2, -1, -1, -1, 0)))
	makesNone(t, append(inTurn(1000, -1000, 9), 999), []int{5, 5}, 10, api.ErrFull)
	// Also of a band that is not the last one, and of two.
	makesNone(t, inTurn(-1000, 1000, 14), []int{6, 1, 6, 1}, 400, api.ErrFull)
	makesNone(t, inTurn(-1000, 1000, 24), []int{6, 6, 6, 6}, 400, api.ErrFull)
}

func TestHowManySamples(t *testing.T) {
	most := some(-60, 60, 33, 5)
	for _, sizes := range [][]int{repeat(4, 8), {6, 6, 6, 6, 6, 2}, {6, 1, 6, 2, 6, 3, 6, 2}} {
		makes(t, most[:32], sizes, 79, mustTell(t, most[:32], sizes, 79))
		makesNone(t, most, sizes, 79, api.ErrShape)
		makesNone(t, most[:31], sizes, 79, api.ErrShape)
		makesNone(t, nil, sizes, 79, api.ErrShape)
	}
	makesNone(t, most, []int{6, 6, 6, 6, 6, 3}, 79, api.ErrFull)
	makesNone(t, repeat(0, 5000), repeat(4, 8), 79, api.ErrShape)
	for _, sizes := range evenSizes() {
		for _, many := range []int{0, 1, total(sizes) - 1, total(sizes) + 1, 2 * total(sizes)} {
			makesNone(t, repeat(0, many), sizes, 8, api.ErrShape)
		}
	}
	makesNone(t, nil, nil, 8, api.ErrNone)
	makesNone(t, []int{}, []int{1}, 8, api.ErrShape)
}

func TestAnOddNumberOfSamples(t *testing.T) {
	for _, sizes := range [][]int{{1}, {3}, {5}, {4, 3}, {1, 2}, {6, 6, 6, 6, 6, 1}, {1, 1, 1, 1, 1, 1, 1}, {4, 4, 4, 4, 4, 4, 4, 3}} {
		makesNone(t, repeat(0, total(sizes)), sizes, 8, api.ErrShape)
		makesNone(t, repeat(9, total(sizes)), sizes, 0, api.ErrShape)
		makesNone(t, repeat(9, total(sizes)+1), sizes, 0, api.ErrShape)
		makesNone(t, repeat(9, total(sizes)-1), sizes, 0, api.ErrShape)
	}
}

func TestHowFarASampleMayBe(t *testing.T) {
	for _, sizes := range evenSizes() {
		many := total(sizes)
		for _, at := range []int{0, many / 2, many - 1} {
			for _, n := range []int{1000, -1000, 999, -999} {
				l := place(0, many, at, n)
				makes(t, l, sizes, 22, mustTell(t, l, sizes, 22))
			}
			for _, n := range []int{1001, -1001, 4001, 1 << 32, -1 << 32, math.MaxInt, math.MinInt, math.MinInt + 1} {
				makesNone(t, place(0, many, at, n), sizes, 22, api.ErrRange)
			}
		}
	}
}

func TestHowManyBitsForEncode(t *testing.T) {
	l, sizes := []int{10, 30, -20, 5}, []int{1, 3}
	for _, bits := range []int{0, 1, 399, 400} {
		makes(t, l, sizes, bits, mustTell(t, l, sizes, bits))
	}
	for _, bits := range wrongBits() {
		makesNone(t, l, sizes, bits, api.ErrRange)
		makesNone(t, repeat(0, 4), sizes, bits, api.ErrRange)
	}
}

func TestWrongSizesForEncode(t *testing.T) {
	for name, c := range badSizes() {
		t.Run(name, func(t *testing.T) {
			for _, many := range []int{0, 1, 2, 9, 32, 33} {
				makesNone(t, repeat(0, many), c.sizes, 8, c.want)
				makesNone(t, repeat(math.MinInt, many), c.sizes, -1, c.want)
			}
		})
	}
}

func TestTheFirstNamedIsToldByEncode(t *testing.T) {
	// How many they are goes ahead of whatever is wrong with the samples, and of the bits.
	makesNone(t, repeat(1001, 3), []int{4}, 401, api.ErrShape)
	makesNone(t, repeat(1001, 2), []int{4}, 401, api.ErrShape)
	makesNone(t, repeat(1001, 6), []int{4}, 401, api.ErrShape)
	makesNone(t, repeat(1001, 33), []int{4}, 401, api.ErrShape)
	makesNone(t, repeat(math.MinInt, 33), repeat(4, 8), -1, api.ErrShape)
	// That they are odd goes ahead of a sample, and of the bits.
	makesNone(t, repeat(1001, 3), []int{3}, 8, api.ErrShape)
	makesNone(t, repeat(0, 3), []int{3}, -1, api.ErrShape)
	makesNone(t, repeat(1001, 3), []int{3}, -1, api.ErrShape)
	// A sample, and the bits, go ahead of a band that is too loud.
	makesNone(t, append(inTurn(-1000, 1000, 9), 1001), []int{5, 5}, 8, api.ErrRange)
	makesNone(t, inTurn(-1000, 1000, 10), []int{5, 5}, -1, api.ErrRange)
	makesNone(t, inTurn(-1000, 1000, 10), []int{5, 5}, 401, api.ErrRange)
	makesNone(t, inTurn(-1000, 1000, 10), []int{5, 5}, math.MinInt, api.ErrRange)
	makesNone(t, inTurn(-1000, 1000, 10), []int{5, 5}, 400, api.ErrFull)
}
