package width_test

import (
	"fmt"
	"math"
	"slices"
	"strings"
	"testing"

	"pulsehorn/api"
	"pulsehorn/plain"
	"pulsehorn/width"
)

// repeat makes a list of one number, so many times.
func repeat(n, many int) []int {
	return slices.Repeat([]int{n}, many)
}

// place puts a number into a list of others.
func place(other, many, at, n int) []int {
	l := repeat(other, many)
	l[at] = n
	return l
}

// behind puts numbers behind each other, in memory of their own.
func behind(l []int, more ...int) []int {
	return slices.Concat(l, more)
}

// octets makes a text of bytes.
func octets(b ...byte) string {
	return string(b)
}

// digits reads bits that are written as a text, spaces between where one likes.
func digits(s string) []int {
	var bits []int
	for _, c := range []byte(s) {
		if c != ' ' {
			bits = append(bits, int(c-'0'))
		}
	}
	return bits
}

// some makes numbers from 0 to below many, the same ones for the same seed.
func some(many, long int, seed uint32) []int {
	l := make([]int, long)
	for i := range l {
		seed = seed*1664525 + 1013904223
		l[i] = int(seed>>8) % many
	}
	return l
}

// someOf makes numbers that go into widths, the same ones for the same seed.
func someOf(widths []int, seed uint32) []int {
	l := make([]int, len(widths))
	for i, n := range widths {
		l[i] = some(1<<n, 1, seed+uint32(i)*977)[0]
	}
	return l
}

// toldPut is what the chapter tells of numbers, each written by the library.
func toldPut(l, widths []int) []int {
	var s strings.Builder
	for i, n := range l {
		if widths[i] > 0 {
			fmt.Fprintf(&s, "%0*b", widths[i], n)
		}
	}
	return digits(s.String())
}

// toldOctets is what the chapter tells of bits, each put at its place of its byte.
func toldOctets(bits []int) string {
	b := make([]byte, int(math.Ceil(float64(len(bits))/8)))
	for i, bit := range bits {
		b[i/8] += byte(bit * []int{128, 64, 32, 16, 8, 4, 2, 1}[i%8])
	}
	return string(b)
}

// put checks the bits of numbers.
func put(t *testing.T, l, widths, want []int) {
	t.Helper()
	if got, err := width.Put(l, widths); !slices.Equal(got, want) || err != nil {
		t.Errorf("Put of %v, %v: %v %v, want %v", l, widths, got, err, want)
	}
}

// got checks the numbers of bits.
func got(t *testing.T, bits, widths, want []int) {
	t.Helper()
	if got, err := width.Get(bits, widths); !slices.Equal(got, want) || err != nil {
		t.Errorf("Get of %v, %v: %v %v, want %v", bits, widths, got, err, want)
	}
}

// both checks the bits of numbers, and that these are the numbers again.
func both(t *testing.T, l, widths, bits []int) {
	t.Helper()
	put(t, l, widths, bits)
	got(t, bits, widths, l)
}

// told checks the bytes of bits, and that these are the bits again.
func told(t *testing.T, bits []int, want string) {
	t.Helper()
	if got, err := width.Octets(bits); got != want || err != nil {
		t.Errorf("Octets of %v: %v %v, want %v", bits, []byte(got), err, []byte(want))
	}
	read(t, want, bits)
}

// read checks the bits of bytes.
func read(t *testing.T, b string, want []int) {
	t.Helper()
	if got, err := width.Bits(b, len(want)); !slices.Equal(got, want) || err != nil {
		t.Errorf("Bits of %v, %d: %v %v, want %v", []byte(b), len(want), got, err, want)
	}
}

// notPut checks that Put tells an error, and answers nothing else.
func notPut(t *testing.T, l, widths []int, want api.Errno) {
	t.Helper()
	if got, err := width.Put(l, widths); len(got) != 0 || plain.Told(err) != want {
		t.Errorf("Put of %v, %v: %v %v, want %v", l, widths, got, err, want)
	}
}

// notGot checks that Get tells an error, and answers nothing else.
func notGot(t *testing.T, bits, widths []int, want api.Errno) {
	t.Helper()
	if got, err := width.Get(bits, widths); len(got) != 0 || plain.Told(err) != want {
		t.Errorf("Get of %v, %v: %v %v, want %v", bits, widths, got, err, want)
	}
}

// notTold checks that Octets tells an error, and answers nothing else.
func notTold(t *testing.T, bits []int, want api.Errno) {
	t.Helper()
	if got, err := width.Octets(bits); got != "" || plain.Told(err) != want {
		t.Errorf("Octets of %v: %v %v, want %v", bits, []byte(got), err, want)
	}
}

// notRead checks that Bits tells an error, and answers nothing else.
func notRead(t *testing.T, b string, many int, want api.Errno) {
	t.Helper()
	if got, err := width.Bits(b, many); len(got) != 0 || plain.Told(err) != want {
		t.Errorf("Bits of %v, %d: %v %v, want %v", []byte(b), many, got, err, want)
	}
}

// wrongWidths are those in which no number may be.
func wrongWidths() []int {
	return []int{-1, 21, -2, 22, -20, 32, 63, 64, 65, 128, 400, 1 << 32, 1<<32 + 8, -1 << 32, math.MaxInt, math.MinInt, math.MinInt + 1}
}

// wrongBits are numbers that are no bits.
func wrongBits() []int {
	return []int{-1, 2, -2, 3, 48, 49, 255, 256, 257, 1 << 32, 1<<32 + 1, -1 << 32, math.MaxInt, math.MinInt, math.MinInt + 1}
}

// wrongNumbers are those that do not go into so many bits.
func wrongNumbers(n int) []int {
	return []int{-1, 1 << n, -2, 1<<n + 1, -1 << n, 1 << 21, 1 << 32, 1<<32 + 1, -1 << 32, 1 << 62, math.MaxInt, math.MinInt, math.MinInt + 1}
}

// rightWidths has widths with which nothing is wrong.
func rightWidths() map[string][]int {
	return map[string][]int{
		"nil":                  nil,
		"none":                 {},
		"one of 0":             {0},
		"one of 1":             {1},
		"one of 8":             {8},
		"one of 20":            {20},
		"some":                 {8, 9, 6, 3, 9},
		"0 at first":           {0, 3},
		"0 at last":            {2, 1, 0},
		"0 between":            {1, 0, 0, 8, 6, 3},
		"each":                 {0, 1, 2, 3, 4, 5, 6, 7, 8, 9, 10, 11, 12, 13, 14, 15, 16, 17, 18, 19, 20},
		"each, falling":        {20, 19, 18, 17, 16, 15, 14, 13, 12, 11, 10, 9, 8, 7, 6, 5, 4, 3, 2, 1, 0},
		"many of 0":            repeat(0, 5000),
		"MaxBits of 1":         repeat(1, 400),
		"MaxBits of 8":         repeat(8, 50),
		"MaxBits of 20":        repeat(20, 20),
		"MaxBits, of 1 and 20": behind(repeat(20, 19), 9, 1, 10),
		"MaxBits, and 0":       behind(repeat(20, 20), 0, 0, 0),
		"one bit fewer":        behind(repeat(20, 19), 19),
		"one number fewer":     repeat(1, 399),
	}
}

func TestNumbersByHand(t *testing.T) {
	for _, c := range []struct {
		l, widths []int
		bits      string
	}{
		{nil, nil, ""},
		{[]int{0}, []int{0}, ""},
		{[]int{0}, []int{1}, "0"},
		{[]int{1}, []int{1}, "1"},
		{[]int{1}, []int{2}, "01"},
		{[]int{2}, []int{2}, "10"},
		{[]int{6}, []int{3}, "110"},
		{[]int{1}, []int{8}, "00000001"},
		{[]int{128}, []int{8}, "10000000"},
		{[]int{154}, []int{8}, "10011010"},
		{[]int{255}, []int{8}, "11111111"},
		{[]int{1}, []int{20}, "00000000000000000001"},
		{[]int{1 << 19}, []int{20}, "10000000000000000000"},
		{[]int{1<<20 - 1}, []int{20}, "11111111111111111111"},
		{[]int{0xABCDE}, []int{20}, "1010 1011 1100 1101 1110"},
		{[]int{3, 1, 0}, []int{2, 1, 0}, "11 1"},
		{[]int{0, 5}, []int{0, 3}, "101"},
		{[]int{0, 0, 0}, []int{0, 0, 0}, ""},
		{[]int{1, 0, 1, 1}, []int{1, 1, 1, 1}, "1 0 1 1"},
		{[]int{2, 0, 36, 109}, []int{4, 5, 7, 8}, "0010 00000 0100100 01101101"},
		{[]int{1, 0, 0, 19, 63, 3}, []int{1, 0, 0, 8, 6, 3}, "1 00010011 111111 011"},
		{[]int{1, 2}, []int{8, 20}, "00000001 00000000000000000010"},
	} {
		both(t, c.l, c.widths, digits(c.bits))
	}
}

func TestBytesByHand(t *testing.T) {
	for _, c := range []struct {
		bits string
		b    string
	}{
		{"", ""},
		{"0", octets(0)},
		{"1", octets(128)},
		{"01", octets(64)},
		{"0000001", octets(2)},
		{"1111111", octets(254)},
		{"00000001", octets(1)},
		{"10000000", octets(128)},
		{"11111111", octets(255)},
		{"00000000 1", octets(0, 128)},
		{"10000000 0", octets(128, 0)},
		{"11111111 1", octets(255, 128)},
		{"10011010 11101111 01111100 10110101 000", octets(154, 239, 124, 181, 0)},
		{"11000000 10001111 1111", octets(192, 143, 240)},
		{"01000001 01100010", "Ab"},
		{"11000011 10111111", "\u00ff"},
		{"00000000 00000000", octets(0, 0)},
	} {
		told(t, digits(c.bits), c.b)
	}
}

func TestEveryNumberOfShortWidths(t *testing.T) {
	for wide := range 13 {
		for n := range 1 << wide {
			both(t, []int{n}, []int{wide}, toldPut([]int{n}, []int{wide}))
		}
	}
}

// TestEachBitAlone has numbers of one 1, which stands as far behind as the number is low.
func TestEachBitAlone(t *testing.T) {
	for wide := 1; wide <= 20; wide++ {
		for at := range wide {
			both(t, []int{1 << (wide - 1 - at)}, []int{wide}, place(0, wide, at, 1))
			both(t, []int{1<<wide - 1 - 1<<(wide-1-at)}, []int{wide}, place(1, wide, at, 0))
		}
	}
}

func TestTheGreatestIsAllOnes(t *testing.T) {
	for wide := range 21 {
		both(t, []int{1<<wide - 1}, []int{wide}, repeat(1, wide))
		both(t, []int{0}, []int{wide}, repeat(0, wide))
		notPut(t, []int{1 << wide}, []int{wide}, api.ErrRange)
	}
}

func TestInNoBitOnlyNought(t *testing.T) {
	both(t, []int{0}, []int{0}, nil)
	for _, n := range []int{1, 2, -1, math.MaxInt, math.MinInt} {
		notPut(t, []int{n}, []int{0}, api.ErrRange)
		notPut(t, []int{0, n}, []int{0, 0}, api.ErrRange)
		notPut(t, []int{n, 0}, []int{0, 5}, api.ErrRange)
	}
	// However many there are: they have no bits.
	both(t, repeat(0, 100_000), repeat(0, 100_000), nil)
	got(t, nil, repeat(0, 401), repeat(0, 401))
}

func TestNoNumber(t *testing.T) {
	for _, l := range [][]int{nil, {}} {
		for _, widths := range [][]int{nil, {}} {
			both(t, l, widths, nil)
			got(t, l, widths, nil)
		}
		told(t, l, "")
	}
	read(t, "", nil)
}

func TestThereAndBackOfNumbers(t *testing.T) {
	for name, widths := range rightWidths() {
		t.Run(name, func(t *testing.T) {
			greatest := make([]int, len(widths))
			for i, n := range widths {
				greatest[i] = 1<<n - 1
			}
			for _, l := range [][]int{repeat(0, len(widths)), greatest, someOf(widths, 1), someOf(widths, 2), someOf(widths, 3)} {
				both(t, l, widths, toldPut(l, widths))
			}
		})
	}
}

func TestThereAndBackOfBits(t *testing.T) {
	for name, widths := range rightWidths() {
		t.Run(name, func(t *testing.T) {
			long := 0
			for _, n := range widths {
				long += n
			}
			for seed := range uint32(5) {
				bits := some(2, long, seed)
				l, err := width.Get(bits, widths)
				if len(l) != len(widths) || err != nil {
					t.Errorf("Get of %v, %v: %v %v", bits, widths, l, err)
				}
				put(t, l, widths, bits)
			}
		})
	}
}

func TestEveryLengthOfBits(t *testing.T) {
	for long := range 401 {
		for seed := range uint32(3) {
			bits := some(2, long, seed)
			told(t, bits, toldOctets(bits))
		}
		told(t, repeat(0, long), toldOctets(repeat(0, long)))
		told(t, repeat(1, long), toldOctets(repeat(1, long)))
	}
}

func TestLengthsThatAreNamed(t *testing.T) {
	told(t, repeat(1, 1), octets(128))
	told(t, repeat(1, 7), octets(254))
	told(t, repeat(1, 8), octets(255))
	told(t, repeat(1, 9), octets(255, 128))
	told(t, repeat(1, 399), strings.Repeat("\xff", 49)+octets(254))
	told(t, repeat(1, 400), strings.Repeat("\xff", 50))
	told(t, place(0, 400, 399, 1), strings.Repeat("\x00", 49)+octets(1))
	told(t, place(0, 400, 0, 1), octets(128)+strings.Repeat("\x00", 49))
}

func TestEveryByte(t *testing.T) {
	for n := range 256 {
		one := byte(n)
		bits := digits(fmt.Sprintf("%08b", n))
		told(t, bits, octets(one))
		told(t, slices.Concat(bits, repeat(0, 8), bits), octets(one, 0, one))
		both(t, []int{n}, []int{8}, bits)
	}
}

func TestThereAndBackOfBytes(t *testing.T) {
	for long := range 51 {
		var b []byte
		for _, n := range some(256, long, uint32(long)) {
			b = append(b, byte(n))
		}
		bits, err := width.Bits(string(b), 8*long)
		if err != nil {
			t.Errorf("Bits of %v: %v", b, err)
		}
		told(t, bits, string(b))
	}
}

// TestEveryShortText holds all texts of up to two bytes against those that Octets makes: no others are to be read.
func TestEveryShortText(t *testing.T) {
	for many := range 17 {
		made := map[string][]int{}
		for n := range 1 << many {
			bits := toldPut([]int{n}, []int{many})
			made[toldOctets(bits)] = bits
		}
		for n := range 1 << 16 {
			b := octets(byte(n>>8), byte(n))[:(many+7)/8]
			bits, err := width.Bits(b, many)
			want, ok := made[b]
			if ok && (err != nil || !slices.Equal(bits, want)) || !ok && (len(bits) != 0 || plain.Told(err) != api.ErrSyntax) {
				t.Fatalf("Bits of %v, %d: %v %v, want %v", []byte(b), many, bits, err, want)
			}
		}
	}
}

func TestNotAsManyWidths(t *testing.T) {
	for _, c := range []struct{ l, widths []int }{
		{nil, []int{0}}, {[]int{0}, nil}, {[]int{0}, []int{}}, {[]int{1, 2}, []int{2}}, {[]int{1}, []int{2, 2}}, {[]int{0, 0, 0}, []int{0, 0}},
		// With a number or a width that is wrong, and with too many bits.
		{[]int{-1}, nil}, {[]int{math.MaxInt, math.MinInt}, []int{1}}, {nil, []int{-1}}, {nil, []int{21}}, {[]int{4}, []int{2, 2}},
		{[]int{0}, []int{math.MinInt, math.MaxInt}}, {repeat(0, 400), repeat(1, 401)}, {repeat(0, 401), repeat(1, 400)}, {repeat(0, 21), repeat(20, 22)},
		{repeat(0, 22), repeat(20, 21)}, {repeat(-1, 500), repeat(21, 501)}, {repeat(0, 20), repeat(20, 21)}, {repeat(0, 21), repeat(20, 20)},
	} {
		notPut(t, c.l, c.widths, api.ErrShape)
	}
}

func TestWidthsAtTheirEdges(t *testing.T) {
	for _, wide := range []int{0, 20} {
		both(t, []int{0}, []int{wide}, repeat(0, wide))
	}
	for _, wide := range wrongWidths() {
		for _, n := range []int{0, 1, -1, math.MaxInt, math.MinInt} {
			notPut(t, []int{n}, []int{wide}, api.ErrRange)
			notPut(t, []int{n, 1}, []int{wide, 1}, api.ErrRange)
			notPut(t, []int{1, n}, []int{1, wide}, api.ErrRange)
			notPut(t, []int{1, n, 1}, []int{1, wide, 1}, api.ErrRange)
		}
		for _, bits := range [][]int{nil, {0}, {1}, repeat(1, 20), repeat(1, 21), repeat(0, 400)} {
			notGot(t, bits, []int{wide}, api.ErrRange)
			notGot(t, bits, []int{wide, 1}, api.ErrRange)
			notGot(t, bits, []int{1, wide}, api.ErrRange)
			notGot(t, bits, behind(repeat(20, 30), wide), api.ErrRange)
		}
	}
	// As many bits as wrong widths are in all.
	notPut(t, []int{0, 0}, []int{-1, 1}, api.ErrRange)
	notGot(t, nil, []int{-1, 1}, api.ErrRange)
	notGot(t, nil, []int{1, -1}, api.ErrRange)
	notGot(t, repeat(0, 21), []int{21}, api.ErrRange)
	notGot(t, repeat(0, 20), []int{21, -1}, api.ErrRange)
	notGot(t, nil, []int{math.MaxInt, math.MaxInt, 2}, api.ErrRange)
	notGot(t, nil, []int{math.MinInt, math.MinInt}, api.ErrRange)
	notPut(t, []int{0, 0, 0}, []int{math.MaxInt, math.MaxInt, 2}, api.ErrRange)
	notPut(t, []int{0, 0}, []int{math.MinInt, math.MinInt}, api.ErrRange)
}

func TestNumbersAtTheirEdges(t *testing.T) {
	for wide := range 21 {
		for _, n := range wrongNumbers(wide) {
			notPut(t, []int{n}, []int{wide}, api.ErrRange)
			notPut(t, []int{n, 0}, []int{wide, 0}, api.ErrRange)
			notPut(t, []int{5, n}, []int{3, wide}, api.ErrRange)
			notPut(t, []int{5, n, 1}, []int{3, wide, 20}, api.ErrRange)
		}
	}
	// Widths stand for their own numbers alone.
	notPut(t, []int{3, 1}, []int{1, 2}, api.ErrRange)
	put(t, []int{1, 3}, []int{1, 2}, digits("1 11"))
}

func TestAWrongNumberAtEachPlace(t *testing.T) {
	for name, widths := range rightWidths() {
		t.Run(name, func(t *testing.T) {
			for _, at := range []int{0, 1, len(widths) / 2, len(widths) - 2, len(widths) - 1} {
				if at < 0 || at >= len(widths) {
					continue
				}
				for _, n := range []int{-1, 1 << widths[at], math.MaxInt, math.MinInt} {
					l := someOf(widths, 4)
					l[at] = n
					notPut(t, l, widths, api.ErrRange)
				}
				for _, wide := range []int{-1, 21, math.MaxInt, math.MinInt} {
					other := slices.Clone(widths)
					other[at] = wide
					notPut(t, repeat(0, len(other)), other, api.ErrRange)
					notGot(t, nil, other, api.ErrRange)
				}
			}
		})
	}
}

func TestMoreThanMaxBits(t *testing.T) {
	for _, c := range []struct{ widths, more []int }{
		// One number too many.
		{repeat(1, 400), repeat(1, 401)},
		{repeat(8, 50), repeat(8, 51)},
		{repeat(20, 20), repeat(20, 21)},
		{repeat(20, 20), behind(repeat(20, 20), 1)},
		{repeat(20, 20), behind([]int{1}, repeat(20, 20)...)},
		{behind(repeat(20, 20), 0), behind(repeat(20, 20), 0, 1, 0)},
		// One bit too many.
		{place(20, 21, 20, 0), place(20, 21, 20, 1)},
		{place(8, 51, 50, 0), place(8, 51, 50, 1)},
		{behind(repeat(19, 21), 1), behind(repeat(19, 21), 2)},
		{behind([]int{1}, repeat(19, 21)...), behind([]int{2}, repeat(19, 21)...)},
		// Far too many.
		{nil, repeat(20, 5000)},
		{repeat(0, 5000), repeat(1, 5000)},
	} {
		l := someOf(c.widths, 6)
		both(t, l, c.widths, toldPut(l, c.widths))
		notPut(t, repeat(0, len(c.more)), c.more, api.ErrFull)
		notPut(t, someOf(c.more, 6), c.more, api.ErrFull)
		// Get is not handed so many bits: there are not as many.
		notGot(t, repeat(0, 400), c.more, api.ErrShape)
		notGot(t, nil, c.more, api.ErrShape)
	}
}

// TestAWrongOneAheadOfTooMany has what is wrong far behind the bits that may be, and is told nevertheless.
func TestAWrongOneAheadOfTooMany(t *testing.T) {
	for _, long := range []int{21, 22, 40, 401, 1000} {
		widths := repeat(20, long)
		notPut(t, repeat(1, long), widths, api.ErrFull)
		for _, at := range []int{0, 1, 19, 20, long / 2, long - 2, long - 1} {
			for _, n := range []int{-1, 1 << 20, math.MaxInt, math.MinInt} {
				notPut(t, place(1, long, at, n), widths, api.ErrRange)
			}
			for _, wide := range wrongWidths() {
				notPut(t, repeat(0, long), place(20, long, at, wide), api.ErrRange)
			}
			// A number that does not go into a width of 0.
			notPut(t, place(0, long, at, 1), place(20, long, at, 0), api.ErrRange)
		}
	}
	notPut(t, behind(repeat(0, 401), 2), repeat(1, 402), api.ErrRange)
	notPut(t, behind(repeat(0, 400), 2), repeat(1, 401), api.ErrRange)
}

func TestTooManyBits(t *testing.T) {
	for _, bit := range []int{0, 1} {
		told(t, repeat(bit, 400), toldOctets(repeat(bit, 400)))
		got(t, repeat(bit, 400), repeat(1, 400), repeat(bit, 400))
		for _, long := range []int{401, 402, 408, 800, 5000} {
			notTold(t, repeat(bit, long), api.ErrFull)
			for _, widths := range [][]int{nil, {1}, repeat(1, long), behind(repeat(20, long/20), long%20)} {
				notGot(t, repeat(bit, long), widths, api.ErrFull)
			}
		}
	}
	// Too many, ahead of a bit that is none, of a width that is wrong, and of not as many.
	for _, bit := range wrongBits() {
		notTold(t, repeat(bit, 401), api.ErrFull)
		for _, at := range []int{0, 200, 399, 400} {
			bits := place(1, 401, at, bit)
			notTold(t, bits, api.ErrFull)
			notGot(t, bits, repeat(1, 401), api.ErrFull)
			notGot(t, bits, []int{-1}, api.ErrFull)
			notGot(t, bits, nil, api.ErrFull)
		}
	}
	for _, wide := range wrongWidths() {
		notGot(t, repeat(0, 401), []int{wide}, api.ErrFull)
		notGot(t, repeat(0, 401), behind(repeat(20, 20), 1, wide), api.ErrFull)
	}
}

func TestBitsAtTheirEdges(t *testing.T) {
	for _, bit := range []int{0, 1} {
		got(t, []int{bit}, []int{1}, []int{bit})
		told(t, []int{bit}, octets(byte(bit*128)))
	}
	for _, bit := range wrongBits() {
		for _, long := range []int{1, 2, 7, 8, 9, 16, 399, 400} {
			for _, at := range []int{0, long / 2, long - 1} {
				bits := some(2, long, 7)
				bits[at] = bit
				notTold(t, bits, api.ErrRange)
				notGot(t, bits, repeat(1, long), api.ErrRange)
				notGot(t, bits, behind(repeat(20, long/20), long%20), api.ErrRange)
				// Ahead of a width that is wrong, and of not as many.
				notGot(t, bits, nil, api.ErrRange)
				notGot(t, bits, []int{-1}, api.ErrRange)
				notGot(t, bits, []int{math.MaxInt}, api.ErrRange)
				notGot(t, bits, repeat(1, long+1), api.ErrRange)
			}
		}
	}
}

func TestNotAsManyBits(t *testing.T) {
	for name, widths := range rightWidths() {
		t.Run(name, func(t *testing.T) {
			long := 0
			for _, n := range widths {
				long += n
			}
			for _, other := range []int{0, 1, 7, 8, 9, long - 2, long - 1, long + 1, long + 2, 399, 400} {
				if other < 0 || other > 400 || other == long {
					continue
				}
				notGot(t, repeat(0, other), widths, api.ErrShape)
				notGot(t, repeat(1, other), widths, api.ErrShape)
				// A width that is wrong is told ahead of it.
				for _, wide := range wrongWidths() {
					notGot(t, repeat(0, other), behind(widths, wide), api.ErrRange)
					notGot(t, repeat(0, other), behind([]int{wide}, widths...), api.ErrRange)
				}
			}
			if long > 0 {
				notGot(t, nil, widths, api.ErrShape)
			}
		})
	}
	notGot(t, repeat(0, 400), repeat(1, 401), api.ErrShape)
	notGot(t, repeat(0, 400), repeat(20, 21), api.ErrShape)
}

func TestHowManyBitsAreWanted(t *testing.T) {
	read(t, "", nil)
	read(t, strings.Repeat("\xff", 50), repeat(1, 400))
	for _, many := range []int{-1, 401, -2, -7, -8, -9, 402, 407, 408, 409, -400, 1 << 32, 1<<32 + 8, -1 << 32, math.MaxInt, math.MaxInt - 6, math.MinInt, math.MinInt + 1} {
		// Also with not as many bytes, and with a 1 behind.
		for _, b := range []string{"", octets(0), octets(255), octets(255, 255), strings.Repeat("\x00", 50), strings.Repeat("\xff", 50), strings.Repeat("\x00", 51), strings.Repeat("\xff", 51), strings.Repeat("\x00", 52)} {
			notRead(t, b, many, api.ErrRange)
		}
	}
}

func TestNotAsManyBytes(t *testing.T) {
	for many := range 401 {
		need := (many + 7) / 8
		for _, one := range []string{"\x00", "\x80", "\xff"} {
			if need > 0 {
				notRead(t, strings.Repeat(one, need-1), many, api.ErrShape)
				notRead(t, "", many, api.ErrShape)
			}
			notRead(t, strings.Repeat(one, need+1), many, api.ErrShape)
			notRead(t, strings.Repeat(one, need+2), many, api.ErrShape)
			notRead(t, strings.Repeat(one, need+5000), many, api.ErrShape)
		}
		// Noughts behind the last byte are too many as well.
		b := toldOctets(some(2, many, 5))
		read(t, b, some(2, many, 5))
		notRead(t, b+octets(0), many, api.ErrShape)
		notRead(t, octets(0)+b, many, api.ErrShape)
	}
	// So many runes, but not so many bytes.
	notRead(t, "\u00ff", 8, api.ErrShape)
	notRead(t, "\u20ac\u20ac", 16, api.ErrShape)
}

func TestAOneBehind(t *testing.T) {
	for _, long := range []int{1, 2, 3, 49, 50} {
		for used := 1; used <= 8; used++ {
			many := 8*(long-1) + used
			for _, bits := range [][]int{repeat(0, many), repeat(1, many), some(2, many, 9)} {
				right := toldOctets(bits)
				read(t, right, bits)
				for place := range 8 - used {
					b := []byte(right)
					b[long-1] |= 1 << place
					notRead(t, string(b), many, api.ErrSyntax)
				}
				b := []byte(right)
				b[long-1] |= 255 >> used
				if used < 8 {
					notRead(t, string(b), many, api.ErrSyntax)
				}
			}
		}
	}
	// Not as many bytes is told ahead of it.
	notRead(t, octets(1, 1), 7, api.ErrShape)
	notRead(t, octets(1), 9, api.ErrShape)
	notRead(t, octets(1), 0, api.ErrShape)
}

// TestListsAreLeftAlone looks at lists, and at what stands behind their lengths, after each call.
func TestListsAreLeftAlone(t *testing.T) {
	for _, c := range []struct{ l, widths []int }{
		{nil, nil}, {[]int{0}, []int{0}}, {[]int{5, 1}, []int{3, 1}}, {[]int{1, 0, 1}, []int{1, 1, 1}}, {repeat(1, 400), repeat(1, 400)}, {repeat(1, 20), repeat(20, 20)},
		{repeat(0, 400), repeat(20, 20)}, {[]int{2}, []int{1}}, {[]int{-1}, []int{1}}, {[]int{1}, []int{21}}, {[]int{1}, nil}, {repeat(1, 401), repeat(1, 401)}, {repeat(1, 9), []int{9}},
	} {
		wholeList, wholeWidths := behind(c.l, 77, -77, 1), behind(c.widths, 1, -79, 0)
		keptList, keptWidths := slices.Clone(wholeList), slices.Clone(wholeWidths)
		list, widths := wholeList[:len(c.l)], wholeWidths[:len(c.widths)]
		width.Put(list, widths)
		width.Get(list, widths)
		width.Octets(list)
		if !slices.Equal(wholeList, keptList) || !slices.Equal(wholeWidths, keptWidths) {
			t.Errorf("%v and %v became %v and %v", keptList, keptWidths, wholeList, wholeWidths)
		}
	}
}

func TestWhatStandsBehindIsNotRead(t *testing.T) {
	l, widths := []int{5, 1, -1, math.MaxInt}, []int{3, 1, 21, -1}
	put(t, l[:2], widths[:2], digits("101 1"))
	put(t, l[:0], widths[:0], nil)
	notPut(t, l[:2], widths[:1], api.ErrShape)
	bits := []int{1, 0, 1, 1, 1, 1, 2, -1}
	got(t, bits[:4], widths[:2], []int{5, 1})
	got(t, bits[:0], widths[:0], nil)
	notGot(t, bits[:3], widths[:2], api.ErrShape)
	told(t, bits[:4], octets(0b1011_0000))
	told(t, bits[:0], "")
	long := behind(repeat(1, 400), 2, 1)
	told(t, long[:400], strings.Repeat("\xff", 50))
	// A piece of a text, with other bytes ahead of it and behind it.
	b := octets(255, 0b1011_0000, 255)
	read(t, b[1:2], bits[:4])
	notRead(t, b[1:], 4, api.ErrShape)
}

// spoil writes over a list, and over what stands behind it.
func spoil(l []int) {
	l = l[:cap(l)]
	for i := range l {
		l[i] = 99
	}
}

func TestListsAreFreshEachTime(t *testing.T) {
	for name, widths := range rightWidths() {
		t.Run(name, func(t *testing.T) {
			numbers := someOf(widths, 8)
			bits := toldPut(numbers, widths)
			b := toldOctets(bits)
			fresh(t, bits, numbers, widths, func(l, widths []int) []int { out, _ := width.Put(l, widths); return out })
			fresh(t, numbers, bits, widths, func(l, widths []int) []int { out, _ := width.Get(l, widths); return out })
			fresh(t, bits, nil, nil, func([]int, []int) []int { out, _ := width.Bits(b, len(bits)); return out })
		})
	}
}

// fresh checks that what comes out shares no memory with what was handed in, nor with what comes out again.
func fresh(t *testing.T, want, l, widths []int, call func(l, widths []int) []int) {
	t.Helper()
	givenList, givenWidths := slices.Clone(l), slices.Clone(widths)
	first, second := call(givenList, givenWidths), call(givenList, givenWidths)
	_ = append(first, 55, 56)
	spoil(first)
	if !slices.Equal(givenList, l) || !slices.Equal(givenWidths, widths) {
		t.Errorf("%v and %v became %v and %v with what came out", l, widths, givenList, givenWidths)
	}
	spoil(givenList)
	spoil(givenWidths)
	if !slices.Equal(second, want) {
		t.Errorf("of %v, %v: %v became %v", l, widths, want, second)
	}
	if third := call(l, widths); !slices.Equal(third, want) {
		t.Errorf("of %v, %v: %v, later %v", l, widths, want, third)
	}
}

func TestBytesStayWhenBitsAreWrittenOver(t *testing.T) {
	for _, long := range []int{1, 7, 8, 9, 400} {
		bits := some(2, long, 3)
		want := toldOctets(bits)
		first, _ := width.Octets(bits)
		spoil(bits)
		width.Octets(repeat(1, 400))
		if first != want {
			t.Errorf("Octets of %d bits: %v became %v", long, []byte(want), []byte(first))
		}
	}
}

func TestCallsAheadChangeNothing(t *testing.T) {
	for range 2 {
		both(t, []int{5, 1}, []int{3, 1}, digits("101 1"))
		notPut(t, []int{5}, []int{2}, api.ErrRange)
		notPut(t, []int{5}, nil, api.ErrShape)
		notPut(t, repeat(1, 401), repeat(1, 401), api.ErrFull)
		notGot(t, digits("101"), []int{3, 1}, api.ErrShape)
		notGot(t, digits("1012"), []int{3, 1}, api.ErrRange)
		notGot(t, repeat(1, 401), []int{3, 1}, api.ErrFull)
		told(t, digits("1011"), octets(176))
		notTold(t, []int{2}, api.ErrRange)
		notTold(t, repeat(1, 401), api.ErrFull)
		notRead(t, octets(177), 4, api.ErrSyntax)
		notRead(t, octets(176, 0), 4, api.ErrShape)
		notRead(t, octets(176), 401, api.ErrRange)
	}
}
