package hide

import (
	"slices"
	"testing"

	"pulsehorn/api"
)

// TestNoughtsWhereDecodingTellsAnError has what no Play leaves behind: a softer frame than one that was decoded is decoded, too.
func TestNoughtsWhereDecodingTellsAnError(t *testing.T) {
	for _, last := range [][]api.Part{
		{{Gain: 20, Pulses: []int{9, 0}}, {Gain: 20, Pulses: []int{0, 0}}},
		{{Gain: 20, Pulses: []int{8, 8}}, {Gain: 20, Pulses: []int{0, 0}}},
		{{Gain: 20, Pulses: []int{8, 0}}, {Gain: 20, Pulses: []int{0}}},
		{{Gain: 56, Pulses: []int{8, 0}}, {Gain: 20, Pulses: []int{0, 0}}},
		{},
	} {
		p, err := New([]int{2, 2}, 8)
		if err != nil {
			t.Fatal(err)
		}
		p.last = last
		if got := p.Lose(); !slices.Equal(got, []int{0, 0, 0, 0}) || p.Lost() != 1 {
			t.Errorf("Lose of %v: %v, and %d lost", last, got, p.Lost())
		}
	}
}

// TestPulsesOfALostFrame has Parts that come to Gain 0, and have 0 only then, beside others, which keep their pulses.
func TestPulsesOfALostFrame(t *testing.T) {
	now := []api.Part{
		{Gain: 13, Pulses: []int{3, -4, 1}}, {Gain: 1, Pulses: []int{-8}}, {Gain: 0, Pulses: []int{0, 0}}, {Gain: 5, Pulses: []int{1, 1}},
	}
	for i, want := range [][]api.Part{
		{{Gain: 9, Pulses: []int{3, -4, 1}}, {Gain: 0, Pulses: []int{0}}, {Gain: 0, Pulses: []int{0, 0}}, {Gain: 1, Pulses: []int{1, 1}}},
		{{Gain: 5, Pulses: []int{3, -4, 1}}, {Gain: 0, Pulses: []int{0}}, {Gain: 0, Pulses: []int{0, 0}}, {Gain: 0, Pulses: []int{0, 0}}},
		{{Gain: 1, Pulses: []int{3, -4, 1}}, {Gain: 0, Pulses: []int{0}}, {Gain: 0, Pulses: []int{0, 0}}, {Gain: 0, Pulses: []int{0, 0}}},
		{{Gain: 0, Pulses: []int{0, 0, 0}}, {Gain: 0, Pulses: []int{0}}, {Gain: 0, Pulses: []int{0, 0}}, {Gain: 0, Pulses: []int{0, 0}}},
	} {
		now = softer(now)
		if !slices.EqualFunc(now, want, func(a, b api.Part) bool { return a.Gain == b.Gain && slices.Equal(a.Pulses, b.Pulses) }) {
			t.Errorf("lost %d: %v, want %v", i+1, now, want)
		}
	}
}
