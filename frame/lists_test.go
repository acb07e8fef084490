package frame_test

import (
	"math"
	"slices"
	"testing"

	"pulsehorn/api"
	"pulsehorn/frame"
)

// hiding puts numbers behind a list's length that no call may read or write.
func hiding(l []int) []int {
	return append(slices.Clone(l), 77, math.MinInt, -77)[:len(l)]
}

// hidingParts puts Parts behind a frame's length, and numbers behind its pulses' lengths.
func hidingParts(l []api.Part) []api.Part {
	all := append(slices.Clone(l), part(-7, 99), part(53, math.MinInt))
	for i := range all {
		all[i].Pulses = hiding(all[i].Pulses)
	}
	return all[:len(l)]
}

// whole is a list with what stands behind it, in memory of its own.
func whole(l []int) []int {
	return slices.Clone(l[:cap(l)])
}

// wholeParts is a frame with what stands behind it, and behind its pulses.
func wholeParts(l []api.Part) []api.Part {
	all := slices.Clone(l[:cap(l)])
	for i := range all {
		all[i].Pulses = whole(all[i].Pulses)
	}
	return all
}

// oddCases has what Encode and Check are given that is wrong: these lists must be left alone, too.
func oddCases() []struct {
	l, sizes []int
	bits     int
} {
	return []struct {
		l, sizes []int
		bits     int
	}{
		{[]int{1, 2, 3}, []int{3}, 8}, {[]int{1, 2}, []int{3}, 8}, {[]int{1, 1001}, []int{2}, 8}, {[]int{1, 2}, []int{2}, -1},
		{inTurn(-1000, 1000, 12), []int{6, 6}, 8}, {nil, nil, 8}, {[]int{1, 2}, []int{7}, 8}, {repeat(5, 33), repeat(4, 8), 8},
	}
}

func TestEncodeLeavesItsListsAlone(t *testing.T) {
	look := func(l, sizes []int, bits int) {
		l, sizes = hiding(l), hiding(sizes)
		keptL, keptSizes := whole(l), whole(sizes)
		frame.Encode(l, sizes, bits)
		if !slices.Equal(whole(l), keptL) || !slices.Equal(whole(sizes), keptSizes) {
			t.Errorf("%v and %v became %v and %v", keptL, keptSizes, whole(l), whole(sizes))
		}
	}
	eachSound(look)
	for _, c := range oddCases() {
		look(c.l, c.sizes, c.bits)
	}
}

// lookAtParts hands a frame to Check and Decode, and looks at it, and at the sizes, behind them.
func lookAtParts(t *testing.T, l []api.Part, sizes []int, bits int) {
	t.Helper()
	l, sizes = hidingParts(l), hiding(sizes)
	kept, keptSizes := wholeParts(l), whole(sizes)
	frame.Check(l, sizes, bits)
	frame.Decode(l)
	if !alike(wholeParts(l), kept) || !slices.Equal(whole(sizes), keptSizes) {
		t.Errorf("%v and %v became %v and %v", kept, keptSizes, wholeParts(l), whole(sizes))
	}
}

func TestCheckAndDecodeLeaveTheirListsAlone(t *testing.T) {
	eachFrame(t, func(l []api.Part, sizes []int, bits int) { lookAtParts(t, l, sizes, bits) })
	for _, c := range oddCases() {
		for _, l := range [][]api.Part{
			nil, parts(part(22, 4, 4)), parts(part(53, 4, 4)), parts(part(22, 8, 8)), parts(part(22, 9, 0)),
			parts(part(52, 8, 0)), parts(part(22, 8)), slices.Repeat(parts(part(22, 4, 4)), 9),
		} {
			lookAtParts(t, l, c.sizes, c.bits)
		}
	}
}

func TestWhatLiesBehindIsNotRead(t *testing.T) {
	eachSound(func(l, sizes []int, bits int) {
		if want, err := told(t, l, sizes, bits); err == nil {
			makes(t, hiding(l), hiding(sizes), bits, want)
		}
	})
	tells(t, hidingParts(parts(part(22, 4, 4))), 11, 33)
	checks(t, hidingParts(parts(part(22, 4, 4))), hiding([]int{2}), 5, api.OK)
	checks(t, hidingParts(parts(part(13, 8), part(13, 0))), hiding([]int{1, 1}), 1, api.OK)
	checks(t, hidingParts(nil), hiding(nil), 1, api.ErrNone)
	tellsNone(t, hidingParts(nil), api.ErrNone)
	makesNone(t, hiding(nil), hiding([]int{1}), 1, api.ErrShape)
	tells(t, hidingParts(parts(part(9))))
}

// spoil writes over all memory of a frame.
func spoil(l []api.Part) {
	for i := range l[:cap(l)] {
		p := l[:cap(l)][i].Pulses
		for j := range p[:cap(p)] {
			p[:cap(p)][j] = 99
		}
		l[:cap(l)][i] = part(-9)
	}
}

func TestFramesAreFreshEachTime(t *testing.T) {
	eachSound(func(l, sizes []int, bits int) {
		want, err := told(t, l, sizes, bits)
		if err != nil {
			return
		}
		givenL, givenSizes := slices.Clone(l), slices.Clone(sizes)
		first, _ := frame.Encode(givenL, givenSizes, bits)
		second, _ := frame.Encode(givenL, givenSizes, bits)
		spoil(first)
		if !slices.Equal(givenL, l) || !slices.Equal(givenSizes, sizes) {
			t.Errorf("%v and %v became %v and %v with the frame", l, sizes, givenL, givenSizes)
		}
		clear(givenL)
		clear(givenSizes)
		if !alike(second, want) {
			t.Errorf("Encode of %v, %v, %d: %v became %v", l, sizes, bits, want, second)
		}
		makes(t, l, sizes, bits, want)
	})
}

// TestNoTwoListsOfPulsesShare writes over one list of pulses, with what stands behind it, and looks at the others.
func TestNoTwoListsOfPulsesShare(t *testing.T) {
	eachSound(func(l, sizes []int, bits int) {
		want, err := told(t, l, sizes, bits)
		if err != nil {
			return
		}
		for at := range sizes {
			got, _ := frame.Encode(l, sizes, bits)
			p := got[at].Pulses
			for i := range p[:cap(p)] {
				p[:cap(p)][i] = 99
			}
			if others := with(want, at, got[at]); !alike(got, others) {
				t.Errorf("Encode of %v, %v, %d: %v became %v with the pulses at %d", l, sizes, bits, want, got, at)
			}
		}
	})
}

func TestSamplesAreFreshEachTime(t *testing.T) {
	eachFrame(t, func(l []api.Part, _ []int, _ int) {
		given := copied(l)
		first, err := frame.Decode(given)
		if err != nil {
			return
		}
		want := slices.Clone(first)
		second, _ := frame.Decode(given)
		for i := range first[:cap(first)] {
			first[:cap(first)][i] = 99
		}
		if !alike(given, l) {
			t.Errorf("%v became %v with its samples", l, given)
		}
		spoil(given)
		if !slices.Equal(second, want) {
			t.Errorf("Decode of %v: %v became %v", l, want, second)
		}
		tells(t, l, want...)
	})
}

// TestNothingIsKept has wrong calls between right ones.
func TestNothingIsKept(t *testing.T) {
	l, sizes := []int{10, 30}, []int{2}
	want := parts(part(22, 4, 4))
	for range 3 {
		makes(t, l, sizes, 5, want)
		makesNone(t, l, sizes, -1, api.ErrRange)
		makesNone(t, inTurn(-1000, 1000, 12), []int{6, 6}, 5, api.ErrFull)
		makes(t, l, sizes, 5, want)
		checks(t, want, sizes, 4, api.ErrShape)
		checks(t, want, sizes, 5, api.OK)
		tellsNone(t, parts(part(52, 8, 0)), api.ErrRange)
		tells(t, want, 11, 33)
	}
}
