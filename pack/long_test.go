package pack_test

import (
	"math"
	"testing"

	"pulsehorn/api"
)

func TestSomeLengths(t *testing.T) {
	long(t, []int{2}, 0, 1)
	long(t, []int{2}, 1, 1)
	long(t, []int{2}, 2, 1)
	long(t, []int{2}, 3, 2)
	long(t, []int{2}, 10, 2)
	long(t, []int{2}, 11, 3)
	long(t, []int{1, 3}, 0, 2)
	long(t, []int{1, 3}, 4, 2)
	long(t, []int{1, 3}, 5, 3)
	long(t, []int{4, 4, 4, 4}, 0, 3)
	long(t, []int{4, 4, 4, 4}, 1, 4)
	long(t, repeat(4, 8), 0, 6)
	long(t, repeat(4, 8), 1, 7)
}

// TestEveryLength counts bits one by one: a byte more is begun with each first one of eight.
func TestEveryLength(t *testing.T) {
	for _, sizes := range rightSizes() {
		want := 0
		for i := range 6*len(sizes) + 400 + 1 {
			if bits := i - 6*len(sizes); bits >= 0 {
				if i <= 400 {
					long(t, sizes, bits, want)
				} else {
					notLong(t, sizes, bits, api.ErrFull)
				}
			}
			if i%8 == 0 {
				want++
			}
		}
	}
}

// TestLengthsDoNotHangOnHowGreatBandsAre has as many bands of each size.
func TestLengthsDoNotHangOnHowGreatBandsAre(t *testing.T) {
	for many := 1; many <= 8; many++ {
		for n := 1; n <= 6 && n*many <= 32; n++ {
			long(t, repeat(n, many), 20, []int{4, 4, 5, 6, 7, 7, 8, 9}[many-1])
		}
	}
}

func TestJustAndOneMoreThanMayBe(t *testing.T) {
	for many := 1; many <= 8; many++ {
		sizes := repeat(1, many)
		long(t, sizes, 400-6*many-1, 50)
		long(t, sizes, 400-6*many, 50)
		for bits := 400 - 6*many + 1; bits <= 400; bits++ {
			notLong(t, sizes, bits, api.ErrFull)
		}
		notLong(t, sizes, 401, api.ErrRange)
	}
}

func TestHowManyBitsForLong(t *testing.T) {
	for _, sizes := range rightSizes() {
		// Those above MaxBits are wrong ahead of being too many.
		for _, bits := range wrongBits() {
			notLong(t, sizes, bits, api.ErrRange)
		}
	}
}

func TestWhichSizesForLong(t *testing.T) {
	for n := 1; n <= 6; n++ {
		long(t, []int{n}, 8, 2)
	}
	for _, n := range []int{0, -1, 7, math.MaxInt, math.MinInt} {
		notLong(t, []int{n}, 8, api.ErrRange)
	}
	for name, c := range badSizes() {
		t.Run(name, func(t *testing.T) {
			for _, bits := range append(wrongBits(), 0, 8, 352, 399, 400) {
				notLong(t, c.sizes, bits, c.want)
			}
		})
	}
}
