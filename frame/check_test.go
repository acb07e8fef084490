package frame_test

import (
	"math"
	"slices"
	"testing"

	"pulsehorn/api"
	"pulsehorn/frame"
	"pulsehorn/plain"
	"pulsehorn/pulse"
	"pulsehorn/share"
)

// with is a frame of which one Part is another one.
func with(l []api.Part, at int, p api.Part) []api.Part {
	l = copied(l)
	l[at] = p
	return l
}

// gainOK tells whether a Gain has a Value.
func gainOK(g int) bool {
	return g >= 0 && g < len(values) && values[g] >= 0
}

// judged is what Check must tell of Parts that have their sizes' numbers, and of bits that may be.
func judged(t *testing.T, l []api.Part, sizes []int, bits int) api.Errno {
	t.Helper()
	var loud, has []int
	for _, p := range l {
		if !gainOK(p.Gain) {
			return api.ErrRange
		}
		if slices.ContainsFunc(p.Pulses, func(n int) bool { return n < -8 || n > 8 }) {
			return api.ErrRange
		}
		if loudOf(p.Pulses) > 8 {
			return api.ErrFull
		}
		loud, has = append(loud, values[p.Gain]), append(has, loudOf(p.Pulses))
	}
	want, err := share.Of(sizes, loud, bits)
	if err != nil {
		t.Fatalf("Of %v, %v, %d: %v", sizes, loud, bits, err)
	}
	if !slices.Equal(has, want) {
		return api.ErrShape
	}
	return api.OK
}

func TestSomeFramesChecked(t *testing.T) {
	for _, c := range []struct {
		l     []api.Part
		sizes []int
		bits  int
		want  api.Errno
	}{
		{parts(part(22, 4, 4)), []int{2}, 5, api.OK},
		{parts(part(22, -8, 0)), []int{2}, 5, api.OK},
		{parts(part(22, 4, 4)), []int{2}, 4, api.ErrShape},
		{parts(part(22, 4, 0)), []int{2}, 4, api.OK},
		{parts(part(22, 1, 0)), []int{2}, 2, api.OK},
		{parts(part(22, 0, 0)), []int{2}, 1, api.OK},
		{parts(part(22, 0, 0)), []int{2}, 2, api.ErrShape},
		// One bit, and two that are as loud: it is the first one's.
		{parts(part(13, 8), part(13, 0)), []int{1, 1}, 1, api.OK},
		{parts(part(13, 0), part(13, 8)), []int{1, 1}, 1, api.ErrShape},
		{parts(part(13, 0), part(14, 8)), []int{1, 1}, 1, api.OK},
		{parts(part(13, 8), part(14, 0)), []int{1, 1}, 1, api.ErrShape},
		// By Values 36 and 4; by the Gains, 21 and 9, each would have one.
		{parts(part(21, 3, 0, 0), part(9, 0, 0, 0)), []int{3, 3}, 6, api.OK},
		{parts(part(21, 0, -1, 0), part(9, 0, 0, 1)), []int{3, 3}, 6, api.ErrShape},
		// An odd number of numbers is no fault here.
		{parts(part(46, 0, 0, 0, 0), part(39, 0, 0, 0)), []int{4, 3}, 2, api.OK},
		{parts(part(33, 0)), []int{1}, 56, api.ErrShape},
		{parts(part(33, -8)), []int{1}, 56, api.OK},
		// Nor is one that Decode tells of.
		{parts(part(52, 8, 0)), []int{2}, 5, api.OK},
		{parts(part(31, -2, -2, -2, -2, 0), part(12, -8), part(9, -8, 0)), []int{5, 1, 2}, 390, api.OK},
	} {
		checks(t, c.l, c.sizes, c.bits, c.want)
	}
}

func TestWhateverIsMadeIsRight(t *testing.T) {
	eachSound(func(l, sizes []int, bits int) {
		if made, err := frame.Encode(l, sizes, bits); err == nil {
			checks(t, made, sizes, bits, api.OK)
		}
	})
}

// TestAnyShapeIsRight has rows of as many pulses, in the place of those that were made.
func TestAnyShapeIsRight(t *testing.T) {
	l, sizes := []int{10, 30, -20, 5}, []int{1, 3}
	for _, bits := range []int{0, 4, 7, 9, 10} {
		made := mustTell(t, l, sizes, bits)
		for at, p := range made {
			for rank := 0; ; rank++ {
				row, err := pulse.Of(sizes[at], loudOf(p.Pulses), rank)
				if err != nil {
					break
				}
				checks(t, with(made, at, part(p.Gain, row...)), sizes, bits, api.OK)
			}
		}
	}
}

// TestOnePulseMoreOrLess changes one number of each Part; frame by frame another one.
func TestOnePulseMoreOrLess(t *testing.T) {
	turn := 0
	eachFrame(t, func(made []api.Part, sizes []int, bits int) {
		turn++
		for at, p := range made {
			i := turn % sizes[at]
			for _, other := range []int{p.Pulses[i] + 1, p.Pulses[i] - 1} {
				row := slices.Clone(p.Pulses)
				row[i] = other
				want := api.ErrShape
				switch {
				case max(other, -other) > 8:
					want = api.ErrRange
				case loudOf(row) > 8:
					want = api.ErrFull
				}
				checks(t, with(made, at, part(p.Gain, row...)), sizes, bits, want)
			}
		}
	})
}

func TestAPulseThatWentToAnotherPart(t *testing.T) {
	made := parts(part(13, 1, 0, 0), part(13, 1, 0, 0))
	checks(t, made, []int{3, 3}, 6, api.OK)
	checks(t, parts(part(13, 1, 1, 0), part(13, 0, 0, 0)), []int{3, 3}, 6, api.ErrShape)
	checks(t, parts(part(13, 0, 0, 0), part(13, 1, 0, 1)), []int{3, 3}, 6, api.ErrShape)
	// It may go to another number of the same one.
	checks(t, parts(part(13, 0, 0, -1), part(13, 0, 1, 0)), []int{3, 3}, 6, api.OK)
}

func TestAnotherGain(t *testing.T) {
	// A silent one has no pulse, and one that is not has them.
	checks(t, parts(part(22, 4, 4)), []int{2}, 5, api.OK)
	checks(t, parts(part(0, 4, 4)), []int{2}, 5, api.ErrShape)
	checks(t, parts(part(0, 0, 0)), []int{2}, 5, api.OK)
	checks(t, parts(part(1, 0, 0)), []int{2}, 5, api.ErrShape)
	// Where one bit goes hangs on which is louder.
	checks(t, parts(part(16, 8), part(15, 0)), []int{1, 1}, 1, api.OK)
	checks(t, parts(part(16, 8), part(16, 0)), []int{1, 1}, 1, api.OK)
	checks(t, parts(part(16, 8), part(17, 0)), []int{1, 1}, 1, api.ErrShape)
	checks(t, parts(part(14, 8), part(15, 0)), []int{1, 1}, 1, api.ErrShape)
	checks(t, parts(part(0, 8), part(15, 0)), []int{1, 1}, 1, api.ErrShape)
	// Where the pulses hang on nothing but whether it is silent, any other is as right.
	for g, v := range values {
		want := api.OK
		switch {
		case v < 0:
			want = api.ErrRange
		case v == 0:
			want = api.ErrShape
		}
		checks(t, parts(part(g, 4, 4)), []int{2}, 5, want)
	}
}

// TestEachGainOfAFrame puts each Gain into the place of each.
func TestEachGainOfAFrame(t *testing.T) {
	for _, sizes := range [][]int{{2}, {1, 3}, {2, 1, 5}, {6, 3, 3}, repeat(4, 8)} {
		for _, bits := range []int{0, 1, 5, 10, 22} {
			made := mustTell(t, some(-60, 60, total(sizes), uint32(bits)), sizes, bits)
			for at := range made {
				for g := -1; g <= 55; g++ {
					l := with(made, at, part(g, made[at].Pulses...))
					checks(t, l, sizes, bits, judged(t, l, sizes, bits))
				}
			}
		}
	}
}

// TestFramesMadeByHand has all pulses and some Gains of two bands, right and wrong.
func TestFramesMadeByHand(t *testing.T) {
	gains := []int{-1, 0, 1, 2, 5, 9, 13, 22, 31, 48, 52, 53, 54}
	right := 0
	for _, bits := range []int{0, 1, 2, 3, 5, 6, 400} {
		for a := range 10 {
			for b := range 10 {
				for _, g := range gains {
					for _, h := range gains {
						l := parts(part(g, -a), part(h, b/2, b/2-b))
						want := judged(t, l, []int{1, 2}, bits)
						checks(t, l, []int{1, 2}, bits, want)
						if want == api.OK {
							right++
						}
					}
				}
			}
		}
	}
	if right < 300 {
		t.Errorf("only %d frames were right", right)
	}
}

func TestOnePartMoreOrLess(t *testing.T) {
	eachFrame(t, func(made []api.Part, sizes []int, bits int) {
		checks(t, made[:len(made)-1], sizes, bits, api.ErrShape)
		checks(t, made[1:], sizes, bits, api.ErrShape)
		checks(t, append(copied(made), part(0)), sizes, bits, api.ErrShape)
		checks(t, append(copied(made), part(0, 0)), sizes, bits, api.ErrShape)
		checks(t, append(copied(made), made[0]), sizes, bits, api.ErrShape)
	})
	checks(t, nil, []int{1}, 8, api.ErrShape)
	checks(t, []api.Part{}, []int{1}, 8, api.ErrShape)
	checks(t, slices.Repeat(parts(part(0, 0)), 8), repeat(1, 8), 8, api.OK)
	checks(t, slices.Repeat(parts(part(0, 0)), 9), repeat(1, 8), 8, api.ErrShape)
	checks(t, slices.Repeat(parts(part(0, 0)), 5000), repeat(1, 8), 8, api.ErrShape)
	checks(t, slices.Repeat(parts(part(0, 0)), 9), repeat(1, 9), 8, api.ErrFull)
}

func TestOneNumberMoreOrLessInAPart(t *testing.T) {
	eachFrame(t, func(made []api.Part, sizes []int, bits int) {
		for at, p := range made {
			checks(t, with(made, at, part(p.Gain, p.Pulses[:sizes[at]-1]...)), sizes, bits, api.ErrShape)
			checks(t, with(made, at, part(p.Gain, append(slices.Clone(p.Pulses), 0)...)), sizes, bits, api.ErrShape)
		}
	})
	checks(t, parts(part(0)), []int{1}, 8, api.ErrShape)
	checks(t, parts(part(0, repeat(0, 6)...)), []int{6}, 8, api.OK)
	checks(t, parts(part(0, repeat(0, 7)...)), []int{6}, 8, api.ErrShape)
	checks(t, parts(part(0, repeat(0, 5000)...)), []int{6}, 8, api.ErrShape)
	// As many in all, but not of the sizes.
	checks(t, parts(part(0, 0), part(0, 0, 0)), []int{1, 2}, 8, api.OK)
	checks(t, parts(part(0, 0), part(0, 0, 0)), []int{2, 1}, 8, api.ErrShape)
	checks(t, parts(part(0), part(0, 0, 0, 0)), []int{1, 2}, 8, api.ErrShape)
}

func TestMostNumbersChecked(t *testing.T) {
	for _, sizes := range [][]int{repeat(4, 8), {6, 6, 6, 6, 6, 2}} {
		made := mustTell(t, some(-1000, 1000, 32, 3), sizes, 41)
		checks(t, made, sizes, 41, api.OK)
	}
	more := slices.Repeat(parts(part(0, repeat(0, 6)...)), 5)
	checks(t, append(more, part(0, 0, 0, 0)), []int{6, 6, 6, 6, 6, 3}, 41, api.ErrFull)
}

func TestWhichGainsMayBe(t *testing.T) {
	sizes := []int{1, 2}
	for g, v := range values {
		if v >= 0 {
			checks(t, parts(part(g, 0), part(0, 0, 0)), sizes, 0, api.OK)
			checks(t, parts(part(0, 0), part(g, 0, 0)), sizes, 0, api.OK)
		}
	}
	for _, g := range wrongGains() {
		checks(t, parts(part(g, 0), part(0, 0, 0)), sizes, 0, api.ErrRange)
		checks(t, parts(part(0, 0), part(g, 0, 0)), sizes, 0, api.ErrRange)
		checks(t, parts(part(g, 8), part(g, 0, 0)), sizes, 1, api.ErrRange)
	}
}

func TestWhichPulsesMayBe(t *testing.T) {
	sizes := []int{1, 2}
	checks(t, parts(part(13, 8), part(13, -4, 4)), sizes, 400, api.OK)
	checks(t, parts(part(13, -8), part(13, 0, -8)), sizes, 400, api.OK)
	checks(t, parts(part(13, 8), part(13, -5, 4)), sizes, 400, api.ErrFull)
	checks(t, parts(part(13, 8), part(13, -1, -8)), sizes, 400, api.ErrFull)
	for _, n := range []int{9, -9, 10, 1 << 32, -1 << 32, math.MaxInt, math.MinInt, math.MinInt + 1} {
		checks(t, parts(part(13, n), part(13, -4, 4)), sizes, 400, api.ErrRange)
		checks(t, parts(part(13, 8), part(13, n, 0)), sizes, 400, api.ErrRange)
		checks(t, parts(part(13, 8), part(13, 0, n)), sizes, 400, api.ErrRange)
		checks(t, parts(part(13, 8), part(13, n, n)), sizes, 400, api.ErrRange)
		// A sum that runs over is no right one.
		checks(t, parts(part(13, 8), part(13, n, -n)), sizes, 400, api.ErrRange)
	}
}

func TestHowManyBitsForCheck(t *testing.T) {
	silent, sizes := parts(part(0, 0), part(0, 0, 0)), []int{1, 2}
	for _, bits := range []int{0, 1, 399, 400} {
		checks(t, silent, sizes, bits, api.OK)
	}
	for _, bits := range wrongBits() {
		checks(t, silent, sizes, bits, api.ErrRange)
	}
	checks(t, parts(part(13, 8), part(13, -4, 4)), sizes, 400, api.OK)
	checks(t, parts(part(13, 8), part(13, -4, 4)), sizes, 401, api.ErrRange)
	checks(t, parts(part(13, 0), part(13, 0, 0)), sizes, 0, api.OK)
	checks(t, parts(part(13, 0), part(13, 0, 0)), sizes, -1, api.ErrRange)
}

func TestWrongSizesForCheck(t *testing.T) {
	for name, c := range badSizes() {
		t.Run(name, func(t *testing.T) {
			checks(t, nil, c.sizes, 8, c.want)
			checks(t, nil, c.sizes, -1, c.want)
			checks(t, parts(part(-1, math.MinInt)), c.sizes, -1, c.want)
			checks(t, slices.Repeat(parts(part(0, 0)), 9), c.sizes, 8, c.want)
			var l []api.Part
			for _, n := range c.sizes {
				l = append(l, part(0, repeat(0, min(max(n, 0), 7))...))
			}
			checks(t, l, c.sizes, 8, c.want)
		})
	}
}

func TestTheFirstNamedIsToldByCheck(t *testing.T) {
	sizes := []int{1, 2}
	// How many they are goes ahead of a Gain, pulses, and bits; also where a Part behind has another number of them.
	checks(t, parts(part(-1, 9)), sizes, -1, api.ErrShape)
	checks(t, parts(part(-1, 9), part(-1, 9)), sizes, -1, api.ErrShape)
	checks(t, parts(part(-1, 9), part(53, 9, 9, 9)), sizes, 401, api.ErrShape)
	checks(t, parts(part(-1, repeat(9, 7)...), part(0, 0, 0)), sizes, 8, api.ErrShape)
	// Of one Part the Gain goes ahead of the pulses.
	checks(t, parts(part(53, 0), part(0, 8, 8)), sizes, 8, api.ErrRange)
	checks(t, parts(part(0, 0), part(53, 8, 8)), sizes, 8, api.ErrRange)
	checks(t, parts(part(0, 0), part(-1, 8, 1)), sizes, 8, api.ErrRange)
	// Of several the first goes ahead, whichever of its two is wrong.
	checks(t, parts(part(0, 8, 1), part(53, 0)), []int{2, 1}, 8, api.ErrFull)
	checks(t, parts(part(0, 0, 9), part(0, 8, 1)), []int{2, 2}, 8, api.ErrRange)
	checks(t, parts(part(0, 8, 1), part(0, 0, 9)), []int{2, 2}, 8, api.ErrFull)
	checks(t, parts(part(53, 0, 0), part(0, 8, 1)), []int{2, 2}, 8, api.ErrRange)
	// Parts go ahead of bits, and bits of how many pulses there are.
	checks(t, parts(part(0, 8, 1)), []int{2}, -1, api.ErrFull)
	checks(t, parts(part(0, 0), part(0, 8, 1)), sizes, 401, api.ErrFull)
	checks(t, parts(part(0, 0), part(0, 4, 4)), sizes, -1, api.ErrRange)
	checks(t, parts(part(0, 0), part(0, 4, 4)), sizes, 401, api.ErrRange)
	checks(t, parts(part(0, 0), part(0, 4, 4)), sizes, 400, api.ErrShape)
}

// TestPulsesForGainsAlone has frames without pulses, and what is wrong with what goes beside them.
func TestPulsesForGainsAlone(t *testing.T) {
	eachFrame(t, func(made []api.Part, sizes []int, bits int) {
		var bare []api.Part
		var want []int
		for _, p := range made {
			bare, want = append(bare, part(p.Gain)), append(want, loudOf(p.Pulses))
		}
		if got, err := frame.PulsesFor(bare, sizes, bits); !slices.Equal(got, want) || err != nil {
			t.Errorf("PulsesFor %v, %v, %d: %v %v, want %v", bare, sizes, bits, got, err, want)
		}
	})
	for _, c := range []struct {
		l     []api.Part
		sizes []int
		bits  int
		want  api.Errno
	}{
		{parts(part(53)), []int{1}, 8, api.ErrRange},
		{parts(part(13)), []int{7}, 8, api.ErrRange},
		{nil, nil, 8, api.ErrNone},
		{parts(part(13)), []int{1, 1}, 8, api.ErrShape},
		{parts(part(13)), []int{1}, 401, api.ErrRange},
	} {
		if got, err := frame.PulsesFor(c.l, c.sizes, c.bits); len(got) != 0 || plain.Told(err) != c.want {
			t.Errorf("PulsesFor %v, %v, %d: %v %v, want %v", c.l, c.sizes, c.bits, got, err, c.want)
		}
	}
}
