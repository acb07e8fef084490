// Package sound has samples.
package sound

import (
	"slices"

	"pulsehorn/api"
)

// Check tells what is wrong with samples.
func Check(l []int) error {
	if len(l) > api.MaxSound {
		return api.ErrFull
	}
	if slices.ContainsFunc(l, Beyond(api.MaxValue)) {
		return api.ErrRange
	}
	return nil
}

// Energy of samples.
func Energy(l []int) (int, error) {
	if err := Check(l); err != nil {
		return 0, err
	}
	return sum(l, func(n int) int { return n * n }), nil
}

// Loud are samples so much.
func Loud(l []int) (int, error) {
	if err := Check(l); err != nil {
		return 0, err
	}
	return Distances(l), nil
}

// Apart are two so much.
func Apart(a, b []int) (int, error) {
	if err := checkTwo(a, b); err != nil {
		return 0, err
	}
	most := 0
	for i := range a {
		most = max(most, Distance(a[i]-b[i]))
	}
	return most, nil
}

// Mix two.
func Mix(a, b []int) ([]int, error) {
	if err := checkTwo(a, b); err != nil {
		return nil, err
	}
	mixed := make([]int, len(a))
	for i := range a {
		mixed[i] = min(max(a[i]+b[i], -api.MaxValue), api.MaxValue)
	}
	return mixed, nil
}

// checkTwo looks at both lists ahead of their lengths: a wrong sample is told even where they are not as many.
func checkTwo(a, b []int) error {
	if err := Check(a); err != nil {
		return err
	}
	if err := Check(b); err != nil {
		return err
	}
	if len(a) != len(b) {
		return api.ErrShape
	}
	return nil
}

// Beyond holds a number against both bounds, not its distance from 0: the least int has none.
func Beyond(bound int) func(int) bool {
	return func(n int) bool { return n < -bound || n > bound }
}

// Distance from 0, of what is known to be in bounds: the least int has none.
func Distance(n int) int {
	return max(n, -n)
}

// Distances from 0, added up, of numbers that are known to be in bounds, though not in those of samples.
func Distances(l []int) int {
	return sum(l, Distance)
}

// sum of what is made of each number.
func sum(l []int, of func(int) int) int {
	total := 0
	for _, n := range l {
		total += of(n)
	}
	return total
}
