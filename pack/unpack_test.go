package pack_test

import (
	"math"
	"strings"
	"testing"

	"pulsehorn/api"
	"pulsehorn/pack"
)

func TestSomeBytesRead(t *testing.T) {
	reads(t, octets(0x5B, 0x00), []int{2}, 5, parts(part(22, 4, 4)))
	reads(t, octets(0x5B, 0x00), []int{2}, 400, parts(part(22, 4, 4)))
	// By one bit less there are four pulses, in 16 rows: twelve of these are ahead of it, and the bits behind are noughts.
	reads(t, octets(0x5B, 0x00), []int{2}, 4, parts(part(22, 2, 2)))
	reads(t, octets(0x34, 0xD8), []int{1, 1}, 1, parts(part(13, 8), part(13, 0)))
	reads(t, octets(0x34, 0xD0), []int{1, 1}, 1, parts(part(13, -8), part(13, 0)))
	reads(t, octets(0x54, 0x97, 0xE8), []int{3, 3}, 9, parts(part(21, 1, 1, 1), part(9, 1, 0, 0)))
	reads(t, octets(0xD0), []int{1}, 0, parts(part(52, 0)))
	reads(t, octets(0), []int{6}, 400, parts(part(0, 0, 0, 0, 0, 0, 0)))
}

func TestWhateverWasPackedIsRead(t *testing.T) {
	eachFrame(t, func(l []api.Part, sizes []int, bits int) {
		b, err := pack.Pack(l, sizes, bits)
		if err != nil {
			t.Errorf("Pack of %v, %v, %d: %v", l, sizes, bits, err)
		}
		reads(t, b, sizes, bits, l)
	})
}

// TestAllShortTexts has all texts of up to two bytes.
func TestAllShortTexts(t *testing.T) {
	for _, c := range []struct {
		sizes []int
		bits  int
		right int
	}{
		// 47 Gains that are not 0; each has as many rows as its pulses have, and of 0 there is one.
		{[]int{1}, 0, 48}, {[]int{1}, 1, 1 + 47*2}, {[]int{2}, 3, 1 + 47*8}, {[]int{2}, 400, 1 + 47*32},
		{[]int{3}, 4, 1 + 47*6}, {[]int{1, 1}, 1, 1 + (48*48-1)*2}, {[]int{3, 3}, 2, 48 * 48}, {[]int{1, 1, 1}, 5, 0},
	} {
		right := 0
		count := func(b string) {
			if readsAsHeard(t, b, c.sizes, c.bits) {
				right++
			}
		}
		count("")
		for hi := range 256 {
			count(octets(byte(hi)))
			for lo := range 256 {
				count(octets(byte(hi), byte(lo)))
			}
		}
		if right != c.right {
			t.Errorf("by %v, %d there are %d texts, want %d", c.sizes, c.bits, right, c.right)
		}
	}
}

// TestTextsWithoutARule has bytes of all lengths that a frame may have, and some more; most Gains have a Value.
func TestTextsWithoutARule(t *testing.T) {
	right := 0
	eachSetting(func(sizes []int, bits int) {
		for seed := range uint32(12) {
			var gains strings.Builder
			for _, g := range some(7, 56, len(sizes), seed+uint32(bits)*7) {
				gains.WriteString(digits(g, 6))
			}
			ranks := some(0, 1, 8*int(seed)+bits%8, seed*5+3)
			for _, bit := range ranks {
				gains.WriteString(digits(bit, 1))
			}
			if readsAsHeard(t, octetsOf(gains.String()), sizes, bits) {
				right++
			}
		}
	})
	if right < 50 {
		t.Errorf("only %d texts were right", right)
	}
}

// TestOneBitOfAFrame turns each bit of some frames: what is read then is another frame, or none.
func TestOneBitOfAFrame(t *testing.T) {
	turn := 0
	eachHandFrame(t, func(l []api.Part, sizes []int, bits int) {
		if turn++; turn%20 != 0 {
			return
		}
		b := []byte(told(l))
		for i := range 8 * len(b) {
			b[i/8] ^= 1 << (i % 8)
			readsAsHeard(t, string(b), sizes, bits)
			b[i/8] ^= 1 << (i % 8)
		}
	})
}

func TestOneByteMoreOrLess(t *testing.T) {
	eachFrame(t, func(l []api.Part, sizes []int, bits int) {
		b := told(l)
		readsNone(t, b+"\x00", sizes, bits, api.ErrSyntax)
		readsNone(t, b+"\xff", sizes, bits, api.ErrSyntax)
		readsNone(t, b+b, sizes, bits, api.ErrSyntax)
		readsNone(t, b[:len(b)-1], sizes, bits, api.ErrSyntax)
		readsNone(t, "", sizes, bits, api.ErrSyntax)
	})
	// One ahead is no better, where it is another frame of another length.
	readsNone(t, octets(0, 0x5B, 0x00), []int{2}, 5, api.ErrSyntax)
	readsNone(t, octets(0, 0), []int{2}, 5, api.ErrSyntax)
}

func TestABitBehindTheLastOne(t *testing.T) {
	behind := 0
	eachFrame(t, func(l []api.Part, sizes []int, bits int) {
		s := spelt(l)
		for long := len(s) + 1; long%8 != 1; long++ {
			more := s + strings.Repeat("0", long-len(s)-1) + "1"
			readsNone(t, octetsOf(more), sizes, bits, api.ErrSyntax)
			behind++
		}
	})
	if behind < 1000 {
		t.Errorf("only %d bits stood behind", behind)
	}
}

func TestAGainOfWhichThereIsNoValue(t *testing.T) {
	for _, g := range gainsOfNoValue() {
		readsNone(t, octets(byte(g*4)), []int{1}, 0, api.ErrSyntax)
		readsNone(t, octetsOf(digits(g, 6)+"0"), []int{1}, 1, api.ErrSyntax)
		readsNone(t, octetsOf(digits(g, 6)+"00000"), []int{2}, 400, api.ErrSyntax)
		for at := range 8 {
			s := strings.Repeat(digits(1, 6), at) + digits(g, 6) + strings.Repeat(digits(1, 6), 7-at)
			readsNone(t, octetsOf(s), repeat(1, 8), 0, api.ErrSyntax)
			readsNone(t, octetsOf(s+"11111111"), repeat(1, 8), 400, api.ErrSyntax)
		}
	}
}

// TestARankThatNoRowHas has the first rank behind the last one, and the greatest that goes into the bits.
func TestARankThatNoRowHas(t *testing.T) {
	found := 0
	for n := 1; n <= 6; n++ {
		for bits := range 16 {
			k := pulsesOf(t, []int{13}, []int{n}, bits)[0]
			w, many := wide(n, k), len(rows(n, k))
			last := part(13, rows(n, k)[many-1]...)
			both(t, parts(last), []int{n}, bits, octetsOf(digits(13, 6)+digits(many-1, w)))
			if many == 1<<w {
				continue
			}
			found++
			for _, rank := range []int{many, (many + 1<<w) / 2, 1<<w - 1} {
				wrong := digits(rank, w)
				readsNone(t, octetsOf(digits(13, 6)+wrong), []int{n}, bits, api.ErrSyntax)
				// Also where another Part is ahead of it, or behind it.
				readsNone(t, octetsOf(digits(0, 6)+digits(13, 6)+wrong), []int{1, n}, bits, api.ErrSyntax)
				readsNone(t, octetsOf(digits(13, 6)+digits(0, 6)+wrong), []int{n, 1}, bits, api.ErrSyntax)
			}
		}
	}
	if found < 20 {
		t.Errorf("only %d sizes and pulses had ranks without a row", found)
	}
	// Of six rows there is none at 6 and 7.
	readsNone(t, octetsOf("001101 110"), []int{3}, 3, api.ErrSyntax)
	readsNone(t, octetsOf("001101 111"), []int{3}, 3, api.ErrSyntax)
	reads(t, octetsOf("001101 101"), []int{3}, 3, parts(part(13, 1, 0, 0)))
	readsNone(t, octetsOf("001101 001101 101 110"), []int{3, 3}, 6, api.ErrSyntax)
	readsNone(t, octetsOf("001101 001101 110 101"), []int{3, 3}, 6, api.ErrSyntax)
	reads(t, octetsOf("001101 001101 101 101"), []int{3, 3}, 6, parts(part(13, 1, 0, 0), part(13, 1, 0, 0)))
}

// TestByOtherSizesAndBits reads what was packed by some by others.
func TestByOtherSizesAndBits(t *testing.T) {
	// Of the length of a frame by others, but not one of these.
	readsNone(t, told(parts(part(22, 4, 4))), []int{2}, 1, api.ErrSyntax)
	readsNone(t, told(parts(part(22, 4, 4))), []int{2}, 2, api.ErrSyntax)
	readsNone(t, told(parts(part(22, 4, 4))), []int{1}, 5, api.ErrSyntax)
	readsNone(t, told(parts(part(22, 4, 4))), []int{2, 2}, 5, api.ErrSyntax)
	readsNone(t, told(parts(part(13, 8), part(13, 0))), []int{2}, 1, api.ErrSyntax)
	taken, not, turn := 0, 0, 0
	eachHandFrame(t, func(l []api.Part, sizes []int, bits int) {
		turn++
		for i, others := range rightSizes() {
			if (i+turn)%17 != 0 {
				continue
			}
			if readsAsHeard(t, told(l), others, bits) {
				taken++
			} else {
				not++
			}
		}
		for _, other := range []int{max(bits-1, 0), bits/2 + 1, min(bits+1, 400)} {
			if readsAsHeard(t, told(l), sizes, other) {
				taken++
			} else {
				not++
			}
		}
	})
	if taken < 1000 || not < 1000 {
		t.Errorf("only %d were taken, and %d were not", taken, not)
	}
}

func TestFarTooManyBytes(t *testing.T) {
	eachSetting(func(sizes []int, bits int) {
		// As many as MaxBits bits make, one less and one more, and far more.
		for _, many := range []int{49, 50, 51, 52, 100, 5000} {
			readsNone(t, strings.Repeat("\x00", many), sizes, bits, api.ErrSyntax)
			readsNone(t, strings.Repeat("\x55", many), sizes, bits, api.ErrSyntax)
			readsNone(t, strings.Repeat("\xff", many), sizes, bits, api.ErrSyntax)
		}
	})
	readsNone(t, strings.Repeat("\x00", 1<<24), []int{1}, 400, api.ErrSyntax)
	readsNone(t, told(parts(part(22, 4, 4)))+strings.Repeat("\x00", 1<<24), []int{2}, 5, api.ErrSyntax)
}

func TestAnEmptyText(t *testing.T) {
	eachSetting(func(sizes []int, bits int) { readsNone(t, "", sizes, bits, api.ErrSyntax) })
	for name, c := range badSizes() {
		t.Run(name, func(t *testing.T) { readsNone(t, "", c.sizes, 8, c.want) })
	}
	for _, bits := range wrongBits() {
		readsNone(t, "", []int{2}, bits, api.ErrRange)
	}
}

func TestTextsAreBytes(t *testing.T) {
	// What would be one sign of two bytes, and what is none at all, is taken byte by byte.
	reads(t, "\xc3\xa0", []int{2}, 5, parts(part(48, 7, -1)))
	reads(t, "\xd0", []int{1}, 0, parts(part(52, 0)))
	readsNone(t, "à", []int{1}, 0, api.ErrSyntax)
	readsNone(t, "0101", []int{2}, 5, api.ErrSyntax)
}

func TestHowManyBitsForUnpack(t *testing.T) {
	for _, bits := range []int{0, 1, 388, 389, 399, 400} {
		reads(t, octets(0, 0), []int{1, 2}, bits, parts(part(0, 0), part(0, 0, 0)))
	}
	for _, bits := range wrongBits() {
		readsNone(t, octets(0, 0), []int{1, 2}, bits, api.ErrRange)
	}
	reads(t, octetsOf("001101 0"), []int{1}, 400, parts(part(13, -8)))
	readsNone(t, octetsOf("001101 0"), []int{1}, 401, api.ErrRange)
	reads(t, octetsOf("001101"), []int{1}, 0, parts(part(13, 0)))
	readsNone(t, octetsOf("001101"), []int{1}, -1, api.ErrRange)
}

func TestWhichSizesForUnpack(t *testing.T) {
	for n := 1; n <= 6; n++ {
		reads(t, octets(0), []int{n}, 8, parts(part(0, repeat(0, n)...)))
	}
	for _, n := range []int{0, -1, 7, math.MaxInt, math.MinInt} {
		readsNone(t, octets(0), []int{n}, 8, api.ErrRange)
	}
	reads(t, strings.Repeat("\x00", 6), repeat(4, 8), 8, byHand(t, repeat(0, 8), repeat(4, 8), 8, func(_, _ int) int { return 0 }))
	readsNone(t, strings.Repeat("\x00", 6), []int{4, 4, 4, 4, 4, 4, 4, 5}, 8, api.ErrFull)
	readsNone(t, strings.Repeat("\x00", 7), repeat(1, 9), 8, api.ErrFull)
	readsNone(t, strings.Repeat("\x00", 5), []int{6, 6, 6, 6, 6, 3}, 8, api.ErrFull)
}

func TestTheFirstNamedIsToldByUnpack(t *testing.T) {
	texts := []string{"", "\x00", "\xff", strings.Repeat("\xff", 6), strings.Repeat("\x00", 51)}
	for name, c := range badSizes() {
		t.Run(name, func(t *testing.T) {
			for _, b := range texts {
				readsNone(t, b, c.sizes, 8, c.want)
				for _, bits := range wrongBits() {
					readsNone(t, b, c.sizes, bits, c.want)
				}
			}
		})
	}
	for _, b := range texts {
		for _, bits := range wrongBits() {
			for _, sizes := range rightSizes() {
				readsNone(t, b, sizes, bits, api.ErrRange)
			}
		}
		// Never ErrFull: how many bits there might be is not asked.
		readsNone(t, b, repeat(4, 7), 400, api.ErrSyntax)
	}
}
