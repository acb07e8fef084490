package pack_test

import (
	"math"
	"slices"
	"strings"
	"testing"

	"pulsehorn/api"
	"pulsehorn/frame"
	"pulsehorn/pack"
	"pulsehorn/plain"
)

func TestSomeFramesPacked(t *testing.T) {
	for _, c := range []struct {
		l     []api.Part
		sizes []int
		bits  int
		want  string
	}{
		// Of 32 rows 24 are ahead; of 4 three; and where there is but one, it has no bits.
		{parts(part(22, 4, 4)), []int{2}, 5, "010110 11000"},
		{parts(part(22, 1, 0)), []int{2}, 2, "010110 11"},
		{parts(part(22, 0, -1)), []int{2}, 2, "010110 01"},
		{parts(part(22, 0, 0)), []int{2}, 1, "010110"},
		{parts(part(22, -8, 0)), []int{2}, 400, "010110 00000"},
		{parts(part(22, 8, 0)), []int{2}, 400, "010110 11111"},
		// Both Gains, then the signs.
		{parts(part(13, 8), part(13, 0)), []int{1, 1}, 1, "001101 001101 1"},
		{parts(part(13, -8), part(9, 8)), []int{1, 1}, 2, "001101 001001 0 1"},
		{parts(part(9, 0), part(13, 8)), []int{1, 1}, 1, "001001 001101 1"},
		{parts(part(0, 0), part(52, 8), part(0, 0), part(1, -8)), repeat(1, 4), 400, "000000 110100 000000 000001 1 0"},
		// 31 of 38 rows are ahead of the first, 5 of 6 ahead of the second.
		{parts(part(21, 1, 1, 1), part(9, 1, 0, 0)), []int{3, 3}, 9, "010101 001001 011111 101"},
		{parts(part(21, 1, 0, 0), part(21, 0, 0, -1)), []int{3, 3}, 6, "010101 010101 101 010"},
		// The last of the greatest rows.
		{parts(part(13, 8, 0, 0, 0, 0, 0)), []int{6}, 15, "001101 100111100011111"},
		{parts(part(13, -8, 0, 0, 0, 0, 0)), []int{6}, 15, "001101 000000000000000"},
		{parts(part(0, 0)), []int{1}, 8, "000000"},
	} {
		both(t, c.l, c.sizes, c.bits, octetsOf(c.want))
	}
	// As bytes, by hand.
	packs(t, parts(part(22, 4, 4)), []int{2}, 5, octets(0x5B, 0x00))
	packs(t, parts(part(13, 8), part(13, 0)), []int{1, 1}, 1, octets(0x34, 0xD8))
	packs(t, parts(part(21, 1, 1, 1), part(9, 1, 0, 0)), []int{3, 3}, 9, octets(0x54, 0x97, 0xE8))
	packs(t, parts(part(52, 0)), []int{1}, 0, octets(0xD0))
}

func TestPackAsTheChapterTells(t *testing.T) {
	eachFrame(t, func(l []api.Part, sizes []int, bits int) {
		packs(t, l, sizes, bits, told(l))
	})
}

func TestEachGainIn6Bits(t *testing.T) {
	for _, g := range rightGains() {
		both(t, parts(part(g, 0)), []int{1}, 0, octets(byte(g*4)))
		for at := range 8 {
			l := slices.Repeat(parts(part(1, 0)), 8)
			l[at].Gain = g
			want := strings.Repeat(digits(1, 6), at) + digits(g, 6) + strings.Repeat(digits(1, 6), 7-at)
			both(t, l, repeat(1, 8), 0, octetsOf(want))
		}
	}
}

func TestAllGainsAheadOfAllRanks(t *testing.T) {
	eachFrame(t, func(l []api.Part, sizes []int, bits int) {
		b, err := pack.Pack(l, sizes, bits)
		s := bitsOf(b)
		if err != nil || len(s) < 6*len(l) {
			t.Errorf("Pack of %v, %v, %d: %v %v", l, sizes, bits, []byte(b), err)
			return
		}
		for i, p := range l {
			if got := s[6*i : 6*i+6]; got != digits(p.Gain, 6) {
				t.Errorf("Pack of %v, %v, %d: %s at %d, want %d", l, sizes, bits, got, i, p.Gain)
			}
		}
	})
}

// TestEachRow has the rows of each size, of as many pulses as each number of bits gives; of the greatest size some.
func TestEachRow(t *testing.T) {
	for n := 1; n <= 6; n++ {
		for k := range 9 {
			step := 1 + len(rows(n, k))/3000
			for rank := 0; rank < len(rows(n, k)); rank += step {
				checkRow(t, n, k, rank)
			}
			checkRow(t, n, k, len(rows(n, k))-1)
		}
	}
}

// checkRow packs a row, by just as many bits as it needs; where these give more pulses there is no such frame.
func checkRow(t *testing.T, n, k, rank int) {
	t.Helper()
	bits := wide(n, k)
	if pulsesOf(t, []int{13}, []int{n}, bits)[0] != k {
		return
	}
	want := octetsOf(digits(13, 6) + digits(rank, bits))
	both(t, parts(part(13, rows(n, k)[rank]...)), []int{n}, bits, want)
}

func TestAPartWithoutPulsesHasNoBitsBehindItsGain(t *testing.T) {
	for _, sizes := range rightSizes() {
		var l []api.Part
		for _, n := range sizes {
			l = append(l, part(30, repeat(0, n)...))
		}
		both(t, l, sizes, 0, octetsOf(strings.Repeat(digits(30, 6), len(sizes))))
	}
	// Nor has it between others.
	both(t, parts(part(13, 8), part(0, 0, 0, 0), part(13, 8)), []int{1, 3, 1}, 2, octetsOf("001101 000000 001101 1 1"))
}

func TestNoughtsBehindTheLastBit(t *testing.T) {
	over := [8]int{}
	eachFrame(t, func(l []api.Part, sizes []int, bits int) {
		b, err := pack.Pack(l, sizes, bits)
		many := len(spelt(l))
		if s := bitsOf(b); err != nil || len(s) < many || len(s) > many+7 || strings.Contains(s[many:], "1") {
			t.Errorf("Pack of %v, %v, %d: %s %v, want %d bits", l, sizes, bits, s, err, many)
		}
		over[many%8]++
	})
	if slices.Contains(over[:], 0) {
		t.Errorf("not each number of bits was left over: %v", over)
	}
}

func TestSilence(t *testing.T) {
	eachSetting(func(sizes []int, bits int) {
		var l []api.Part
		for _, n := range sizes {
			l = append(l, part(0, repeat(0, n)...))
		}
		want := strings.Repeat("\x00", []int{1, 2, 3, 3, 4, 5, 6, 6}[len(sizes)-1])
		both(t, l, sizes, bits, want)
		if total(sizes)%2 == 0 {
			made, err := frame.Encode(repeat(0, total(sizes)), sizes, bits)
			if err != nil {
				t.Errorf("Encode of silence, %v, %d: %v", sizes, bits, err)
			}
			packs(t, made, sizes, bits, want)
		}
	})
}

func TestMadeFramesInNoMoreBytesThanTold(t *testing.T) {
	eachFrame(t, func(l []api.Part, sizes []int, bits int) {
		b, err := pack.Pack(l, sizes, bits)
		most, bad := pack.Long(sizes, bits)
		if plain.Told(bad) == api.ErrFull {
			most = 50
		}
		if err != nil || len(b) > most {
			t.Errorf("Pack of %v, %v, %d: %d bytes %v, want at most %d", l, sizes, bits, len(b), err, most)
		}
		reads(t, b, sizes, bits, l)
	})
}

// TestMostBits has the frames of the most bits that there are: they are far fewer than MaxBits, so that none is full.
func TestMostBits(t *testing.T) {
	for _, sizes := range rightSizes() {
		for bits := 400 - 6*len(sizes) - 1; bits <= 400; bits++ {
			l := byHand(t, repeat(52, len(sizes)), sizes, bits, func(_, many int) int { return many - 1 })
			both(t, l, sizes, bits, told(l))
		}
	}
	l := byHand(t, repeat(52, 8), repeat(4, 8), 400, func(_, many int) int { return many - 1 })
	want := octetsOf(strings.Repeat("110100", 8) + strings.Repeat("10101111111", 8))
	if len(want) != 17 {
		t.Errorf("%d bytes, want 17", len(want))
	}
	// 6 bits for each and bits are just MaxBits, and one more.
	both(t, l, repeat(4, 8), 352, want)
	both(t, l, repeat(4, 8), 353, want)
	both(t, l, repeat(4, 8), 400, want)
	both(t, parts(part(13, 8)), []int{1}, 394, octetsOf("001101 1"))
	both(t, parts(part(13, 8)), []int{1}, 395, octetsOf("001101 1"))
	both(t, parts(part(13, 8)), []int{1}, 400, octetsOf("001101 1"))
}

func TestHowManyBitsForPack(t *testing.T) {
	silent, sizes := parts(part(0, 0), part(0, 0, 0)), []int{1, 2}
	for _, bits := range []int{0, 1, 388, 389, 399, 400} {
		packs(t, silent, sizes, bits, octets(0, 0))
	}
	for _, bits := range wrongBits() {
		packsNone(t, silent, sizes, bits, api.ErrRange)
	}
}

func TestWrongSizesForPack(t *testing.T) {
	for name, c := range badSizes() {
		t.Run(name, func(t *testing.T) {
			for _, bits := range append(wrongBits(), 8, 400) {
				packsNone(t, nil, c.sizes, bits, c.want)
				packsNone(t, parts(part(-1, math.MinInt)), c.sizes, bits, c.want)
				packsNone(t, slices.Repeat(parts(part(0, 0)), 9), c.sizes, bits, c.want)
			}
			var l []api.Part
			for _, n := range c.sizes {
				l = append(l, part(0, repeat(0, min(max(n, 0), 7))...))
			}
			packsNone(t, l, c.sizes, 8, c.want)
		})
	}
}

func TestWrongFrames(t *testing.T) {
	sizes := []int{1, 2}
	for _, c := range []struct {
		l    []api.Part
		bits int
		want api.Errno
	}{
		{nil, 400, api.ErrShape},
		{[]api.Part{}, 400, api.ErrShape},
		{parts(part(13, 8)), 400, api.ErrShape},
		{parts(part(13, 8), part(13, 4, 4), part(0)), 400, api.ErrShape},
		{parts(part(13, 8), part(13, 8)), 400, api.ErrShape},
		{parts(part(13, 8), part(13, 4, 4, 0)), 400, api.ErrShape},
		{parts(part(13), part(13, 4, 4)), 400, api.ErrShape},
		{parts(part(13, 4, 4), part(13, 8)), 400, api.ErrShape},
		{slices.Repeat(parts(part(0, 0)), 5000), 400, api.ErrShape},
		{parts(part(13, 8), part(0, repeat(0, 5000)...)), 400, api.ErrShape},
		{parts(part(13, 9), part(13, 4, 4)), 400, api.ErrRange},
		{parts(part(13, 8), part(13, math.MinInt, math.MaxInt)), 400, api.ErrRange},
		{parts(part(13, 8), part(13, 8, 1)), 400, api.ErrFull},
		{parts(part(13, 8), part(13, 4, 3)), 400, api.ErrShape},
		{parts(part(13, 8), part(13, 0, 0)), 400, api.ErrShape},
		{parts(part(13, 0), part(13, 4, 4)), 400, api.ErrShape},
		{parts(part(0, 8), part(13, 4, 4)), 400, api.ErrShape},
		{parts(part(13, 8), part(13, 4, 4)), 5, api.ErrShape},
		{parts(part(13, 8), part(13, 0, 0)), 2, api.OK},
		{parts(part(13, 8), part(13, 4, 4)), 6, api.OK},
		{parts(part(13, 8), part(13, 4, 4)), 400, api.OK},
	} {
		if c.want == api.OK {
			packs(t, c.l, sizes, c.bits, told(c.l))
		} else {
			packsNone(t, c.l, sizes, c.bits, c.want)
		}
	}
	for _, g := range append(gainsOfNoValue(), -1, 64, 100, 1<<32, -1<<32, math.MaxInt, math.MinInt, math.MinInt+1) {
		packsNone(t, parts(part(g, 0), part(0, 0, 0)), sizes, 0, api.ErrRange)
		packsNone(t, parts(part(0, 0), part(g, 0, 0)), sizes, 0, api.ErrRange)
		packsNone(t, parts(part(13, 8), part(g, 4, 4)), sizes, 400, api.ErrRange)
	}
}

func TestTheFirstNamedIsToldByPack(t *testing.T) {
	sizes := []int{1, 2}
	packsNone(t, parts(part(-1, 9)), sizes, -1, api.ErrShape)
	packsNone(t, parts(part(-1, 9), part(53, 9, 9, 9)), sizes, 401, api.ErrShape)
	packsNone(t, parts(part(0, 0), part(53, 8, 8)), sizes, 8, api.ErrRange)
	packsNone(t, parts(part(0, 8, 1), part(53, 0)), []int{2, 1}, 8, api.ErrFull)
	packsNone(t, parts(part(53, 0, 0), part(0, 8, 1)), []int{2, 2}, 8, api.ErrRange)
	packsNone(t, parts(part(0, 8, 1)), []int{2}, -1, api.ErrFull)
	packsNone(t, parts(part(0, 0), part(0, 4, 4)), sizes, -1, api.ErrRange)
	packsNone(t, parts(part(0, 0), part(0, 4, 4)), sizes, 401, api.ErrRange)
	// Whatever is wrong with a frame goes ahead of how many bits there would be: these come to more than MaxBits.
	for _, bits := range []int{389, 400} {
		packsNone(t, parts(part(0, 0), part(0, 4, 4)), sizes, bits, api.ErrShape)
		packsNone(t, parts(part(0, 0), part(53, 0, 0)), sizes, bits, api.ErrRange)
		packsNone(t, parts(part(0, 0)), sizes, bits, api.ErrShape)
	}
}

// TestWrongAsFrameChecks holds Pack against chapter 16's Check, of frames of which one thing is another one.
func TestWrongAsFrameChecks(t *testing.T) {
	held := map[api.Errno]int{}
	hold := func(l []api.Part, sizes []int, bits int) {
		want := plain.Told(frame.Check(l, sizes, bits))
		held[want]++
		if want == api.OK {
			packs(t, l, sizes, bits, told(l))
		} else {
			packsNone(t, l, sizes, bits, want)
		}
	}
	eachHandFrame(t, func(l []api.Part, sizes []int, bits int) {
		at := (bits + len(sizes)) % len(l)
		p := l[at]
		more := slices.Clone(p.Pulses)
		more[0] += 1 + bits%3
		hold(with(l, at, part(p.Gain, more...)), sizes, bits)
		hold(with(l, at, part((p.Gain+7)%60, p.Pulses...)), sizes, bits)
		hold(l[:at], sizes, bits)
		hold(l, slices.Concat(sizes[1:], sizes[:1]), bits)
		hold(l, sizes, bits+1)
		hold(l, sizes, bits-1)
	})
	for _, e := range []api.Errno{api.OK, api.ErrRange, api.ErrShape, api.ErrFull} {
		if held[e] < 20 {
			t.Errorf("only %d frames were %v", held[e], e)
		}
	}
}
