package log_test

import (
	"errors"
	"math"
	"testing"

	"pulsehorn/api"
	"pulsehorn/hide"
	"pulsehorn/log"
	"pulsehorn/plain"
)

func TestWhatIsMadeHasNothing(t *testing.T) {
	for _, s := range settings() {
		made(t, s)
	}
}

func TestWhichSizes(t *testing.T) {
	for _, n := range []int{2, 4, 6} {
		made(t, setting{[]int{n}, 8})
	}
	for _, n := range []int{1, 3, 5} {
		refuses(t, []int{n}, 8, api.ErrShape)
		made(t, setting{[]int{n, 1}, 8})
		made(t, setting{[]int{1, n}, 8})
	}
	for _, n := range []int{0, -1, -2, 7, 8, math.MaxInt, math.MaxInt - 1, math.MinInt, math.MinInt + 1} {
		refuses(t, []int{n}, 8, api.ErrRange)
		refuses(t, []int{2, n}, 8, api.ErrRange)
		refuses(t, []int{n, 2}, 8, api.ErrRange)
	}
	for name, c := range badSizes() {
		t.Run(name, func(t *testing.T) { refuses(t, c.sizes, 8, c.want) })
	}
}

func TestHowManySizes(t *testing.T) {
	for many := 1; many <= 8; many++ {
		made(t, setting{repeat(2, many), 8})
		made(t, setting{repeat(4, many), 8})
	}
	refuses(t, repeat(2, 9), 8, api.ErrFull)
	refuses(t, nil, 8, api.ErrNone)
}

func TestHowManyNumbersInAll(t *testing.T) {
	made(t, setting{repeat(4, 8), 8})
	made(t, setting{[]int{6, 6, 6, 6, 6, 2}, 8})
	made(t, setting{[]int{6, 6, 6, 6, 6, 1, 1}, 8})
	refuses(t, []int{6, 6, 6, 6, 6, 1}, 8, api.ErrShape)
	refuses(t, []int{6, 6, 6, 6, 6, 3}, 8, api.ErrFull)
	refuses(t, []int{6, 6, 6, 6, 6, 4}, 8, api.ErrFull)
}

func TestNotEvenAsManyNumbers(t *testing.T) {
	for _, sizes := range oddSizes() {
		for _, bits := range []int{0, 1, 8, 399, 400} {
			refuses(t, sizes, bits, api.ErrShape)
		}
	}
}

func TestHowManyBits(t *testing.T) {
	for _, sizes := range rightSizes() {
		for _, bits := range []int{0, 1, 2, 351, 352, 353, 399, 400} {
			made(t, setting{sizes, bits})
		}
		for _, bits := range wrongBits() {
			refuses(t, sizes, bits, api.ErrRange)
		}
	}
}

func TestTheFirstNamedIsToldByNew(t *testing.T) {
	for name, c := range badSizes() {
		t.Run(name, func(t *testing.T) {
			for _, bits := range wrongBits() {
				refuses(t, c.sizes, bits, c.want)
			}
		})
	}
	for _, sizes := range oddSizes() {
		for _, bits := range wrongBits() {
			refuses(t, sizes, bits, api.ErrRange)
		}
	}
}

// TestNewIsThePlayers has lists without a rule, of which a Log tells what a Player tells.
func TestNewIsThePlayers(t *testing.T) {
	told := map[api.Errno]int{}
	for seed := range uint32(3000) {
		sizes := some(1, 6, int(seed%10), seed)
		if seed%5 == 0 {
			sizes = some(0, 7, int(seed%11), seed)
		}
		bits := some(-60, 460, 1, seed)[0]
		_, err := hide.New(sizes, bits)
		if err != nil {
			refuses(t, sizes, bits, plain.Told(err))
		} else {
			made(t, setting{sizes, bits})
		}
		told[plain.Told(err)]++
	}
	for _, e := range []api.Errno{api.OK, api.ErrNone, api.ErrFull, api.ErrRange, api.ErrShape} {
		if told[e] < 30 {
			t.Errorf("only %d were %v", told[e], e)
		}
	}
}

func TestErrorsAreOfTheProgram(t *testing.T) {
	s := setting{[]int{2}, 5}
	full := filled(t, s, framesOf(t, s, most)...)
	stops := made(t, s)
	stops.Fail(0)
	for _, err := range []error{
		second(log.New(nil, 8)), second(log.New([]int{2}, -1)), second(log.New([]int{1}, 8)),
		made(t, s).Put(""), full.Put("\x5b\x00"), stops.Sync(), stops.Sync(), stops.Put("\x5b\x00"),
	} {
		var told api.Errno
		if !errors.As(err, &told) || told == api.OK {
			t.Errorf("%v is none of the program's", err)
		}
	}
}

// second of two results.
func second[T any](_ T, err error) error {
	return err
}
