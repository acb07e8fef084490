package hide_test

import (
	"errors"
	"math"
	"testing"

	"pulsehorn/api"
	"pulsehorn/hide"
)

func TestWhatIsMadeHasLostNone(t *testing.T) {
	eachSetting(func(sizes []int, bits int) { lost(t, player(t, sizes, bits), 0) })
}

func TestWhichSizes(t *testing.T) {
	for _, n := range []int{2, 4, 6} {
		player(t, []int{n}, 8)
	}
	for _, n := range []int{1, 3, 5} {
		refuses(t, []int{n}, 8, api.ErrShape)
		player(t, []int{n, 1}, 8)
		player(t, []int{1, n}, 8)
	}
	for _, n := range []int{0, -1, -2, 7, 8, math.MaxInt, math.MaxInt - 1, math.MinInt, math.MinInt + 1} {
		refuses(t, []int{n}, 8, api.ErrRange)
		refuses(t, []int{2, n}, 8, api.ErrRange)
		refuses(t, []int{n, 2}, 8, api.ErrRange)
	}
	for name, c := range badSizes() {
		t.Run(name, func(t *testing.T) { refuses(t, c.sizes, 8, c.want) })
	}
}

func TestHowManySizes(t *testing.T) {
	for many := 1; many <= 8; many++ {
		player(t, repeat(2, many), 8)
		player(t, repeat(4, many), 8)
	}
	refuses(t, repeat(2, 9), 8, api.ErrFull)
	refuses(t, nil, 8, api.ErrNone)
}

func TestHowManyNumbersInAll(t *testing.T) {
	player(t, repeat(4, 8), 8)
	player(t, []int{6, 6, 6, 6, 6, 2}, 8)
	player(t, []int{6, 6, 6, 6, 6, 1, 1}, 8)
	refuses(t, []int{6, 6, 6, 6, 6, 1}, 8, api.ErrShape)
	refuses(t, []int{6, 6, 6, 6, 6, 3}, 8, api.ErrFull)
	refuses(t, []int{6, 6, 6, 6, 6, 4}, 8, api.ErrFull)
}

func TestNotEvenAsManyNumbers(t *testing.T) {
	for _, sizes := range oddSizes() {
		for _, bits := range []int{0, 1, 8, 399, 400} {
			refuses(t, sizes, bits, api.ErrShape)
		}
	}
}

func TestHowManyBits(t *testing.T) {
	for _, sizes := range rightSizes() {
		for _, bits := range []int{0, 1, 2, 351, 352, 353, 399, 400} {
			player(t, sizes, bits)
		}
		for _, bits := range wrongBits() {
			refuses(t, sizes, bits, api.ErrRange)
		}
	}
}

func TestTheFirstNamedIsToldByNew(t *testing.T) {
	for name, c := range badSizes() {
		t.Run(name, func(t *testing.T) {
			for _, bits := range wrongBits() {
				refuses(t, c.sizes, bits, c.want)
			}
		})
	}
	for _, sizes := range oddSizes() {
		for _, bits := range wrongBits() {
			refuses(t, sizes, bits, api.ErrRange)
		}
	}
}

func TestErrorsAreOfTheProgram(t *testing.T) {
	for _, err := range []error{
		second(hide.New(nil, 8)), second(hide.New([]int{2}, -1)), second(hide.New([]int{1}, 8)),
		second(player(t, []int{2}, 5).Play("")), second(player(t, []int{2}, 5).Play(tooLoud(t).b)),
	} {
		var told api.Errno
		if !errors.As(err, &told) || told == api.OK {
			t.Errorf("%v is none of the program's", err)
		}
	}
}

// second of two results.
func second[T any](_ T, err error) error {
	return err
}
