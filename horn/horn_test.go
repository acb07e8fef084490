package horn_test

import (
	"bytes"
	"math"
	"slices"
	"testing"

	"pulsehorn/api"
	"pulsehorn/horn"
	"pulsehorn/plain"
)

// repeat makes a list of one number, so many times.
func repeat(n, many int) []int {
	return slices.Repeat([]int{n}, many)
}

// place puts a number into a list of others.
func place(other, many, at, n int) []int {
	l := repeat(other, many)
	l[at] = n
	return l
}

// behind puts numbers behind each other, in memory of their own.
func behind(l []int, more ...int) []int {
	return slices.Concat(l, more)
}

// octets makes a text of bytes.
func octets(b ...byte) string {
	return string(b)
}

// added is how many there are in all.
func added(l []int) int {
	total := 0
	for _, n := range l {
		total += n
	}
	return total
}

// each goes over all rows of so many signs, of those that are named.
func each(many int, of []int, do func([]int)) {
	if many == 0 {
		do(nil)
		return
	}
	each(many-1, of, func(l []int) {
		for _, sign := range of {
			do(behind(l, sign))
		}
	})
}

// having are the signs that have a share.
func having(f []int) []int {
	var signs []int
	for sign, share := range f {
		if share > 0 {
			signs = append(signs, sign)
		}
	}
	return signs
}

// some makes a row of signs that have a share, the same ones for the same seed.
func some(f []int, many int, seed uint32) []int {
	signs := having(f)
	l := make([]int, many)
	for i := range l {
		seed = seed*1664525 + 1013904223
		l[i] = signs[int(seed>>8)%len(signs)]
	}
	return l
}

// told is what the chapter tells of a row: the number, and the bytes taken off, the one taken off last first.
func told(f, l []int) (int, []byte) {
	if len(l) == 0 {
		return 65_536, nil
	}
	number, off := told(f, l[1:])
	sign := l[0]
	for number >= 65_536*f[sign] {
		off = slices.Concat([]byte{byte(number & 255)}, off)
		number >>= 8
	}
	times, rest := number/f[sign], number%f[sign]
	return times*256 + rest + added(f[:sign]), off
}

// toldBytes puts the number of a row, as three bytes, ahead of those taken off.
func toldBytes(f, l []int) string {
	number, off := told(f, l)
	return octets(byte(number>>16), byte(number>>8), byte(number)) + string(off)
}

// toldBits is how many bits the signs of a row need, each counted by doubling.
func toldBits(f, l []int) int {
	bits := 0
	for _, sign := range l {
		for share := f[sign]; share < 256; share *= 2 {
			bits++
		}
	}
	return bits
}

// toldMost is how many bytes there are at most.
func toldMost(f, l []int) int {
	return 3 + toldBits(f, l)/8 + 1
}

// encoded checks the bytes of a row, and that they are the row again.
func encoded(t *testing.T, f, l []int, want string) {
	t.Helper()
	if got, err := horn.Encode(f, l); got != want || err != nil {
		t.Errorf("Encode of %v, %v: %v %v, want %v", f, l, []byte(got), err, []byte(want))
	}
	decoded(t, f, want, l)
}

// decoded checks the row of bytes.
func decoded(t *testing.T, f []int, b string, want []int) {
	t.Helper()
	if got, err := horn.Decode(f, b, len(want)); !slices.Equal(got, want) || err != nil {
		t.Errorf("Decode of %v, %v, %d: %v %v, want %v", f, []byte(b), len(want), got, err, want)
	}
}

// atMost checks how many bytes a row may have.
func atMost(t *testing.T, f, l []int, want int) {
	t.Helper()
	if got, err := horn.Most(f, l); got != want || err != nil {
		t.Errorf("Most of %v, %v: %d %v, want %d", f, l, got, err, want)
	}
}

// needed checks how many bits a row needs.
func needed(t *testing.T, f, l []int, want int) {
	t.Helper()
	if got, err := horn.Bits(f, l); got != want || err != nil {
		t.Errorf("Bits of %v, %v: %d %v, want %d", f, l, got, err, want)
	}
}

// notEncoded checks that Encode, Most and Bits tell an error, and answer nothing else.
func notEncoded(t *testing.T, f, l []int, want api.Errno) {
	t.Helper()
	if got, err := horn.Encode(f, l); got != "" || plain.Told(err) != want {
		t.Errorf("Encode of %v, %v: %v %v, want %v", f, l, []byte(got), err, want)
	}
	if got, err := horn.Most(f, l); got != 0 || plain.Told(err) != want {
		t.Errorf("Most of %v, %v: %d %v, want %v", f, l, got, err, want)
	}
	if got, err := horn.Bits(f, l); got != 0 || plain.Told(err) != want {
		t.Errorf("Bits of %v, %v: %d %v, want %v", f, l, got, err, want)
	}
}

// notDecoded checks that Decode tells an error, and answers nothing else.
func notDecoded(t *testing.T, f []int, b string, many int, want api.Errno) {
	t.Helper()
	if got, err := horn.Decode(f, b, many); len(got) != 0 || plain.Told(err) != want {
		t.Errorf("Decode of %v, %v, %d: %v %v, want %v", f, []byte(b), many, got, err, want)
	}
}

// noneOrItself checks that bytes are ErrSyntax, or those of a row that Encode makes of it again.
func noneOrItself(t *testing.T, f []int, b string, many int) {
	t.Helper()
	l, err := horn.Decode(f, b, many)
	if err != nil {
		if len(l) != 0 || plain.Told(err) != api.ErrSyntax {
			t.Errorf("Decode of %v, %v, %d: %v %v, want ErrSyntax", f, []byte(b), many, l, err)
		}
		return
	}
	if again, err := horn.Encode(f, l); len(l) != many || again != b || err != nil {
		t.Errorf("Decode of %v, %v, %d: %v, but of this Encode: %v %v", f, []byte(b), many, l, []byte(again), err)
	}
}

// rightShares has shares with which nothing is wrong.
func rightShares() map[string][]int {
	return map[string][]int{
		"one":                       {256},
		"two alike":                 {128, 128},
		"two":                       {77, 179},
		"the first has one":         {1, 255},
		"the last has one":          {255, 1},
		"the first has all":         {256, 0},
		"the last has all":          {0, 256},
		"some":                      {86, 85, 85},
		"each power of two":         {1, 1, 2, 4, 8, 16, 32, 64, 128},
		"beside powers of two":      {3, 5, 7, 9, 15, 17, 31, 33, 63, 65, 8},
		"most to one":               {129, 127},
		"none at first":             {0, 0, 0, 42, 214},
		"none at last":              {86, 85, 85, 0, 0},
		"none between":              {64, 64, 64, 0, 32, 0, 0, 32},
		"MaxSign":                   place(6, 40, 0, 22),
		"MaxSign, of ones":          place(1, 40, 39, 217),
		"MaxSign, the last has all": place(0, 40, 39, 256),
		"MaxSign, the middle":       place(0, 40, 20, 256),
		"MaxSign, every other":      slices.Repeat([]int{0, 20, 0, 0, 24, 0, 0, 20, 0, 0}, 4),
	}
}

// wrongShares has shares with which something is wrong.
func wrongShares() map[string][]int {
	return map[string][]int{
		"nil":                                nil,
		"none":                               {},
		"one more than MaxSign":              place(6, 41, 0, 16),
		"one more than MaxSign, of nothing":  behind(place(6, 40, 0, 22), 0),
		"one more than MaxSign, one has all": place(0, 41, 0, 256),
		"far too many":                       place(0, 5000, 0, 256),
		"one of 0":                           {0},
		"all of 0":                           repeat(0, 40),
		"one is one fewer":                   {255},
		"one is one more":                    {257},
		"one fewer in all":                   {86, 85, 84},
		"one more in all":                    {86, 85, 86},
		"twice Total":                        {256, 256},
		"below 0":                            {-1},
		"the first is below 0, Total in all": {-1, 257},
		"the last is below 0, Total in all":  {257, -1},
		"one is below 0, none above Total":   {200, -1, 57},
		"the least":                          {math.MinInt},
		"the greatest":                       {math.MaxInt},
		"greatest, twice, run over to Total": {math.MaxInt, math.MaxInt, 258},
		"least, twice, and Total":            {math.MinInt, math.MinInt, 256},
		"2^32 and Total":                     {1<<32 + 256},
	}
}

// eachRow goes over right shares, and rows of all lengths of their signs.
func eachRow(t *testing.T, do func(t *testing.T, f, l []int)) {
	for name, f := range rightShares() {
		t.Run(name, func(t *testing.T) {
			for many := range 61 {
				for seed := range uint32(6) {
					do(t, f, some(f, many, seed))
				}
			}
			for _, sign := range having(f) {
				for _, many := range []int{1, 2, 3, 8, 59, 60} {
					do(t, f, repeat(sign, many))
				}
			}
		})
	}
}

func TestRowsByHand(t *testing.T) {
	for _, c := range []struct {
		f, l []int
		want string
		most int
	}{
		{[]int{128, 128}, []int{0}, octets(2, 0, 0), 4},
		{[]int{128, 128}, []int{1}, octets(2, 0, 128), 4},
		{[]int{128, 128}, []int{0, 1}, octets(4, 1, 0), 4},
		{[]int{128, 128}, []int{1, 0}, octets(4, 0, 128), 4},
		{[]int{128, 128}, repeat(0, 7), octets(128, 0, 0), 4},
		{[]int{128, 128}, repeat(0, 8), octets(1, 0, 0, 0), 5},
		{[]int{1, 255}, []int{0}, octets(1, 0, 0, 0), 5},
		{[]int{1, 255}, []int{1}, octets(1, 1, 2), 4},
		{[]int{1, 255}, []int{0, 1}, octets(1, 1, 0, 2), 5},
		{[]int{1, 255}, []int{1, 0}, octets(1, 1, 2, 0), 5},
		{[]int{255, 1}, []int{0}, octets(1, 1, 1), 4},
		{[]int{255, 1}, []int{1}, octets(1, 0, 255, 0), 5},
		{[]int{255, 1}, []int{1, 1}, octets(1, 0, 255, 255, 0), 6},
		{[]int{3, 253}, []int{0}, octets(85, 85, 1), 4},
		{[]int{3, 253}, []int{0, 0}, octets(28, 113, 2, 1), 5},
		{[]int{0, 100, 0, 156}, []int{1}, octets(2, 143, 36), 4},
		{[]int{0, 100, 0, 156}, []int{3}, octets(1, 164, 116), 4},
	} {
		encoded(t, c.f, c.l, c.want)
		atMost(t, c.f, c.l, c.most)
	}
}

func TestSomeRows(t *testing.T) {
	encoded(t, []int{33, 41, 24, 45, 80, 33}, []int{4, 4, 5, 4, 0}, octets(7, 181, 143, 236))
	encoded(t, []int{204, 16, 36}, []int{1, 1, 0, 0, 0, 1}, octets(31, 157, 215, 184))
	encoded(t, []int{54, 51, 25, 25, 25, 0, 51, 25}, []int{1, 6, 3, 4}, octets(10, 84, 65, 147))
	encoded(t, []int{86, 41, 57, 72}, []int{0, 3, 1, 3, 1, 3, 0, 3, 2, 3, 1}, octets(84, 29, 48, 107, 136))
	decoded(t, []int{0, 0, 0, 51, 103, 102}, octets(197, 69, 165), []int{5, 4, 5, 5, 3})
	decoded(t, []int{33, 41, 24, 45, 80, 33}, octets(10, 170, 90), []int{2})
}

func TestNoSign(t *testing.T) {
	for _, f := range rightShares() {
		encoded(t, f, nil, octets(1, 0, 0))
		encoded(t, f, []int{}, octets(1, 0, 0))
		atMost(t, f, nil, 4)
		atMost(t, f, []int{}, 4)
		for _, b := range []string{"", octets(1), octets(1, 0), octets(0, 255, 255), octets(1, 0, 1), octets(1, 1, 0), octets(2, 0, 0), octets(1, 0, 0, 0), octets(255, 255, 255)} {
			notDecoded(t, f, b, 0, api.ErrSyntax)
		}
	}
}

// TestOneSignOfAll has rows that hang on their lengths alone, which the bytes do not tell.
func TestOneSignOfAll(t *testing.T) {
	for _, f := range [][]int{{256}, {256, 0}, {0, 256}, {0, 256, 0}, place(0, 40, 0, 256), place(0, 40, 39, 256)} {
		sign := having(f)[0]
		for many := range 61 {
			encoded(t, f, repeat(sign, many), octets(1, 0, 0))
			atMost(t, f, repeat(sign, many), 4)
			for _, b := range []string{octets(1, 0, 1), octets(2, 0, 0), octets(1, 0, 0, 0), octets(1, 0, 0, 255), octets(0, 255, 255), octets(255, 255, 255)} {
				notDecoded(t, f, b, many, api.ErrSyntax)
			}
		}
	}
}

// TestSignsWhoseShareIs1 has rows of which each sign takes a byte.
func TestSignsWhoseShareIs1(t *testing.T) {
	for many := 1; many <= 60; many++ {
		encoded(t, []int{1, 255}, repeat(0, many), octets(1, 0, 0)+string(make([]byte, many)))
		atMost(t, []int{1, 255}, repeat(0, many), 4+many)
		full := bytes.Repeat([]byte{255}, many-1)
		encoded(t, []int{255, 1}, repeat(1, many), octets(1, 0, 255)+string(full)+octets(0))
		atMost(t, []int{255, 1}, repeat(1, many), 4+many)
	}
	// Of signs that have one place each, the bytes are these places.
	f := place(1, 40, 39, 217)
	encoded(t, f, []int{7, 30, 0, 12, 38}, octets(1, 0, 7, 30, 0, 12, 38, 0))
	atMost(t, f, []int{7, 30, 0, 12, 38}, 9)
}

func TestBitsOfEachShare(t *testing.T) {
	for share := 1; share <= 256; share++ {
		f := []int{share, 256 - share}
		bits := int(math.Ceil(math.Log2(256 / float64(share))))
		for _, many := range []int{1, 7, 8, 9, 60} {
			atMost(t, f, repeat(0, many), 4+bits*many/8)
			needed(t, f, repeat(0, many), bits*many)
		}
	}
}

// TestBitsAreAddedUpAheadOfRounding has signs of which none needs a whole byte.
func TestBitsAreAddedUpAheadOfRounding(t *testing.T) {
	f := []int{100, 100, 50, 6}
	for _, c := range []struct {
		l    []int
		most int
	}{
		{[]int{0}, 4}, {[]int{3}, 4}, {[]int{3, 0}, 5}, {[]int{0, 3}, 5}, {[]int{2, 2}, 4}, {[]int{2, 2, 0}, 5}, {[]int{0, 1, 0}, 4}, {[]int{0, 1, 0, 1}, 5},
		{[]int{3, 3, 2}, 5}, {[]int{3, 3, 2, 0}, 6}, {repeat(3, 60), 49}, {repeat(0, 60), 19}, {repeat(2, 60), 26},
	} {
		atMost(t, f, c.l, c.most)
	}
}

func TestEveryRowThereAndBack(t *testing.T) {
	eachRow(t, func(t *testing.T, f, l []int) {
		encoded(t, f, l, toldBytes(f, l))
		atMost(t, f, l, toldMost(f, l))
		needed(t, f, l, toldBits(f, l))
	})
}

func TestEveryShortRow(t *testing.T) {
	for _, f := range [][]int{{128, 128}, {1, 255}, {255, 1}, {86, 85, 85}, {1, 2, 253}, {253, 0, 2, 1}, {64, 0, 128, 64}} {
		for many := range 7 {
			seen := map[string][]int{}
			each(many, having(f), func(l []int) {
				b := toldBytes(f, l)
				encoded(t, f, l, b)
				if other, ok := seen[b]; ok {
					t.Errorf("shares %v: %v and %v have the same bytes", f, other, l)
				}
				seen[b] = l
			})
		}
	}
}

func TestEveryShareThereAndBack(t *testing.T) {
	for share := 1; share < 256; share++ {
		f := []int{share, 256 - share}
		for many := range 61 {
			l := some(f, many, uint32(share))
			encoded(t, f, l, toldBytes(f, l))
		}
	}
}

func TestNeverMoreBytesThanMost(t *testing.T) {
	eachRow(t, func(t *testing.T, f, l []int) {
		b, _ := horn.Encode(f, l)
		most, _ := horn.Most(f, l)
		if len(b) > most || len(b) < 3 || b[0] == 0 {
			t.Errorf("Encode of %v, %v: %v, which are %d bytes of at most %d", f, l, []byte(b), len(b), most)
		}
	})
}

func TestOneSignMoreAndOneFewer(t *testing.T) {
	eachRow(t, func(t *testing.T, f, l []int) {
		b, _ := horn.Encode(f, l)
		if slices.Contains(f, 256) {
			return
		}
		if len(l) < 60 {
			notDecoded(t, f, b, len(l)+1, api.ErrSyntax)
		}
		if len(l) > 0 {
			notDecoded(t, f, b, len(l)-1, api.ErrSyntax)
		}
	})
}

func TestBytesCutOff(t *testing.T) {
	eachRow(t, func(t *testing.T, f, l []int) {
		b, _ := horn.Encode(f, l)
		for many := range len(b) {
			notDecoded(t, f, b[:many], len(l), api.ErrSyntax)
		}
	})
}

func TestBytesMore(t *testing.T) {
	eachRow(t, func(t *testing.T, f, l []int) {
		b, _ := horn.Encode(f, l)
		for _, more := range []byte{0, 1, 127, 128, 255} {
			notDecoded(t, f, b+octets(more), len(l), api.ErrSyntax)
		}
		notDecoded(t, f, b+b, len(l), api.ErrSyntax)
	})
}

func TestNumbersBelowLeast(t *testing.T) {
	eachRow(t, func(t *testing.T, f, l []int) {
		b, _ := horn.Encode(f, l)
		notDecoded(t, f, octets(0)+b[1:], len(l), api.ErrSyntax)
		// Read on, it would come to the right number.
		notDecoded(t, f, octets(0)+b, len(l), api.ErrSyntax)
		notDecoded(t, f, octets(0, 255, 255)+b[3:], len(l), api.ErrSyntax)
	})
}

// TestLeastIsNotBelow has rows whose number is Least at last, too.
func TestLeastIsNotBelow(t *testing.T) {
	decoded(t, []int{1, 255}, octets(1, 0, 0, 0), []int{0})
	decoded(t, []int{128, 128}, octets(1, 0, 0, 0), repeat(0, 8))
	notDecoded(t, []int{1, 255}, octets(0, 255, 255, 0), 1, api.ErrSyntax)
}

func TestOneByteChanged(t *testing.T) {
	for name, f := range rightShares() {
		t.Run(name, func(t *testing.T) {
			for _, many := range []int{0, 1, 2, 5, 16} {
				l := some(f, many, 3)
				b, _ := horn.Encode(f, l)
				for at := range len(b) {
					for other := range 256 {
						changed := []byte(b)
						changed[at] = byte(other)
						noneOrItself(t, f, string(changed), many)
					}
				}
			}
		})
	}
}

func TestOneByteChangedOfMaxRow(t *testing.T) {
	for name, f := range rightShares() {
		t.Run(name, func(t *testing.T) {
			l := some(f, 60, 5)
			b, _ := horn.Encode(f, l)
			for at := range len(b) {
				for _, by := range []byte{1, 2, 64, 128, 255} {
					changed := []byte(b)
					changed[at] += by
					noneOrItself(t, f, string(changed), 60)
				}
			}
		})
	}
}

// TestEveryNumber holds all numbers from 0 on against the rows that there are: no others are to be decoded.
func TestEveryNumber(t *testing.T) {
	for _, c := range []struct {
		f    []int
		many int
		rest string
	}{
		{[]int{256}, 3, ""}, {[]int{128, 128}, 1, ""}, {[]int{128, 128}, 2, ""}, {[]int{86, 85, 85}, 1, ""}, {[]int{1, 255}, 2, octets(2)}, {[]int{1, 255}, 2, octets(0)},
		{[]int{255, 1}, 3, octets(255)}, {[]int{200, 56, 0}, 5, ""}, {[]int{64, 0, 192}, 4, ""}, {[]int{64, 0, 192}, 4, octets(0)},
	} {
		rows := map[string][]int{}
		each(c.many, having(c.f), func(l []int) { rows[toldBytes(c.f, l)] = l })
		for number := range 1 << 19 {
			b := octets(byte(number>>16), byte(number>>8), byte(number)) + c.rest
			l, err := horn.Decode(c.f, b, c.many)
			want, ok := rows[b]
			if ok && (err != nil || !slices.Equal(l, want)) || !ok && (len(l) != 0 || plain.Told(err) != api.ErrSyntax) {
				t.Errorf("Decode of %v, %v, %d: %v %v, want %v", c.f, []byte(b), c.many, l, err, want)
			}
		}
	}
}

func TestBytesThatAreNone(t *testing.T) {
	for _, f := range rightShares() {
		for many := 1; many <= 60; many++ {
			for _, one := range []byte{0, 1, 255} {
				for long := range 3 {
					notDecoded(t, f, string(bytes.Repeat([]byte{one}, long)), many, api.ErrSyntax)
				}
				for _, long := range []int{3, 4, 5, 10, 63, 64, 65, 5000} {
					noneOrItself(t, f, string(bytes.Repeat([]byte{one}, long)), many)
				}
			}
			notDecoded(t, f, octets(0, 0, 0), many, api.ErrSyntax)
			notDecoded(t, f, octets(0, 255, 255), many, api.ErrSyntax)
			notDecoded(t, f, string(make([]byte, 100)), many, api.ErrSyntax)
		}
	}
	notDecoded(t, []int{128, 128}, octets(255, 255, 255), 60, api.ErrSyntax)
	notDecoded(t, []int{128, 128}, string(bytes.Repeat([]byte{255}, 70)), 60, api.ErrSyntax)
}

func TestBytesWithoutARule(t *testing.T) {
	for name, f := range rightShares() {
		t.Run(name, func(t *testing.T) {
			seed := uint32(11)
			for long := range 70 {
				for many := range 61 {
					b := make([]byte, long)
					for i := range b {
						seed = seed*1664525 + 1013904223
						b[i] = byte(seed >> 24)
					}
					noneOrItself(t, f, string(b), many)
				}
			}
		})
	}
}

// TestBytesThatAreNoText has bytes that would be changed if they were taken for runes.
func TestBytesThatAreNoText(t *testing.T) {
	f := []int{1, 1, 254}
	encoded(t, f, []int{1, 1, 1}, octets(1, 0, 1, 1, 1, 0))
	high := behind(repeat(1, 20), 217, 19)
	l := repeat(20, 60)
	encoded(t, high, l, toldBytes(high, l))
	encoded(t, []int{255, 1}, repeat(1, 4), octets(1, 0, 255, 255, 255, 255, 0))
	decoded(t, []int{1, 255}, octets(1, 1, 0, 2), []int{0, 1})
}

func TestWrongSharesAreTold(t *testing.T) {
	for name, f := range wrongShares() {
		t.Run(name, func(t *testing.T) {
			// Also with other faults: what is wrong with shares is told first.
			for _, l := range [][]int{nil, {0}, {-1}, {1}, {math.MaxInt}, {math.MinInt}, repeat(0, 60), repeat(0, 61), repeat(-1, 61)} {
				notEncoded(t, f, l, api.ErrShape)
			}
			for _, b := range []string{"", octets(1), octets(1, 0, 0), octets(0, 0, 0), octets(255, 255, 255, 255)} {
				for _, many := range []int{0, 1, -1, 60, 61, math.MinInt, math.MaxInt} {
					notDecoded(t, f, b, many, api.ErrShape)
				}
			}
		})
	}
}

func TestOneMoreAndOneFewerAtEachShare(t *testing.T) {
	for name, right := range rightShares() {
		t.Run(name, func(t *testing.T) {
			for i := range right {
				for _, by := range []int{-257, -256, -1, 1, 256, 1 << 32, 1 << 62} {
					f := slices.Clone(right)
					f[i] += by
					notEncoded(t, f, nil, api.ErrShape)
					notEncoded(t, f, []int{i}, api.ErrShape)
					notDecoded(t, f, octets(1, 0, 0), 0, api.ErrShape)
				}
			}
		})
	}
}

func TestMoreThanMaxRow(t *testing.T) {
	for _, f := range rightShares() {
		l := some(f, 61, 9)
		encoded(t, f, l[:60], toldBytes(f, l[:60]))
		notEncoded(t, f, l, api.ErrFull)
		notEncoded(t, f, some(f, 5000, 9), api.ErrFull)
		// More than may be, ahead of signs that are none, and of those that have no share.
		notEncoded(t, f, repeat(-1, 61), api.ErrFull)
		notEncoded(t, f, repeat(len(f), 61), api.ErrFull)
		notEncoded(t, f, behind(l[:60], math.MaxInt), api.ErrFull)
		notEncoded(t, f, behind([]int{math.MinInt}, l[:60]...), api.ErrFull)
		for sign, share := range f {
			if share == 0 {
				notEncoded(t, f, repeat(sign, 61), api.ErrFull)
			}
		}
	}
}

func TestSignsAtTheirEdges(t *testing.T) {
	for name, f := range rightShares() {
		t.Run(name, func(t *testing.T) {
			for _, many := range []int{1, 2, 7, 60} {
				for _, at := range []int{0, many / 2, many - 1} {
					for _, sign := range []int{-1, len(f), -2, len(f) + 1, -len(f), 40, 41, 255, 256, 1 << 32, -1 << 32, math.MaxInt, math.MinInt} {
						if sign >= 0 && sign < len(f) {
							continue
						}
						l := some(f, many, 2)
						l[at] = sign
						notEncoded(t, f, l, api.ErrRange)
					}
					for sign, share := range f {
						l := some(f, many, 2)
						l[at] = sign
						if share == 0 {
							notEncoded(t, f, l, api.ErrNone)
						} else {
							encoded(t, f, l, toldBytes(f, l))
						}
					}
				}
			}
		})
	}
}

func TestTheFirstSignsFaultIsTold(t *testing.T) {
	f := []int{100, 0, 156, 0}
	for _, c := range []struct {
		l    []int
		want api.Errno
	}{
		{[]int{1, -1}, api.ErrNone}, {[]int{-1, 1}, api.ErrRange}, {[]int{3, 4}, api.ErrNone}, {[]int{4, 3}, api.ErrRange},
		{[]int{0, 2, 1, 0, 4}, api.ErrNone}, {[]int{0, 2, 4, 0, 1}, api.ErrRange},
		{[]int{1, math.MaxInt, math.MinInt}, api.ErrNone}, {[]int{math.MinInt, 1, 1}, api.ErrRange}, {[]int{math.MaxInt, 1, 1}, api.ErrRange},
		{behind(repeat(0, 58), 1, -1), api.ErrNone}, {behind(repeat(0, 58), -1, 1), api.ErrRange},
		{behind([]int{1}, repeat(-1, 59)...), api.ErrNone}, {behind([]int{-1}, repeat(1, 59)...), api.ErrRange},
	} {
		notEncoded(t, f, c.l, c.want)
	}
}

func TestHowManySignsAreWanted(t *testing.T) {
	for _, f := range rightShares() {
		for _, many := range []int{0, 1, 59, 60} {
			l := some(f, many, 4)
			decoded(t, f, toldBytes(f, l), l)
		}
		l := some(f, 60, 4)
		for _, many := range []int{-1, 61, -60, 62, -2, 1 << 32, 1<<32 + 60, -1 << 32, math.MaxInt, math.MinInt, math.MinInt + 1} {
			notDecoded(t, f, toldBytes(f, l), many, api.ErrRange)
			// Wrong bytes are told last.
			for _, b := range []string{"", octets(1), octets(1, 0), octets(1, 0, 0), octets(0, 0, 0), string(make([]byte, 70))} {
				notDecoded(t, f, b, many, api.ErrRange)
			}
		}
		// Just such bytes as a row of MaxRow and one more would have.
		notDecoded(t, f, toldBytes(f, some(f, 61, 4)), 61, api.ErrRange)
	}
}

// TestListsAreLeftAlone looks at lists, and at what stands behind their lengths, after each call.
func TestListsAreLeftAlone(t *testing.T) {
	shares := rightShares()
	for name, f := range wrongShares() {
		shares["wrong: "+name] = f
	}
	for name, f := range shares {
		t.Run(name, func(t *testing.T) {
			for _, l := range [][]int{nil, {0}, {0, 1}, {1, 0, 0, 1}, {-1, 0}, repeat(0, 60), repeat(0, 61)} {
				wholeShares, wholeRow := behind(f, 77, -77, 78), behind(l, 0, -79, 1)
				keptShares, keptRow := slices.Clone(wholeShares), slices.Clone(wholeRow)
				givenShares, givenRow := wholeShares[:len(f)], wholeRow[:len(l)]
				b, _ := horn.Encode(givenShares, givenRow)
				horn.Most(givenShares, givenRow)
				horn.Bits(givenShares, givenRow)
				horn.Decode(givenShares, b, len(l))
				horn.Decode(givenShares, octets(1, 2, 3, 4), len(l))
				if !slices.Equal(wholeShares, keptShares) || !slices.Equal(wholeRow, keptRow) {
					t.Errorf("%v and %v became %v and %v", keptShares, keptRow, wholeShares, wholeRow)
				}
			}
		})
	}
}

func TestWhatStandsBehindIsNotRead(t *testing.T) {
	f, l := []int{1, 255, 256, -1, math.MaxInt}, []int{0, 1, 2, -1, math.MinInt}
	encoded(t, f[:2], l[:2], octets(1, 1, 0, 2))
	atMost(t, f[:2], l[:2], 5)
	encoded(t, f[:2], l[:0], octets(1, 0, 0))
	atMost(t, f[:2], l[:0], 4)
	notEncoded(t, f[:0], l[:0], api.ErrShape)
	notEncoded(t, f[:1], l[:1], api.ErrShape)
	notEncoded(t, f[:2], l[:3], api.ErrRange)
	notDecoded(t, f[:0], octets(1, 0, 0), 0, api.ErrShape)
	notDecoded(t, f[:1], octets(1, 0, 0), 0, api.ErrShape)
	long := behind(repeat(0, 60), -1, 0)
	encoded(t, f[:2], long[:60], octets(1, 0, 0)+string(make([]byte, 60)))
	shares := behind(place(6, 40, 0, 22), 6, 256)
	encoded(t, shares[:40], []int{39}, toldBytes(shares[:40], []int{39}))
	// A piece of a text, with other bytes ahead of it and behind it.
	b := octets(9, 1, 1, 0, 2, 0)
	decoded(t, f[:2], b[1:5], []int{0, 1})
	notDecoded(t, f[:2], b[1:4], 2, api.ErrSyntax)
}

// spoil writes over a list, and over what stands behind it.
func spoil(l []int) {
	l = l[:cap(l)]
	for i := range l {
		l[i] = 99
	}
}

func TestRowsAreFreshEachTime(t *testing.T) {
	for _, f := range rightShares() {
		for _, many := range []int{0, 1, 2, 17, 60} {
			want := some(f, many, 8)
			b := toldBytes(f, want)
			given := slices.Clone(f)
			first, _ := horn.Decode(given, b, many)
			second, _ := horn.Decode(given, b, many)
			_ = append(first, 55, 56)
			spoil(first)
			if !slices.Equal(given, f) {
				t.Errorf("%v became %v with what came out", f, given)
			}
			spoil(given)
			if !slices.Equal(second, want) {
				t.Errorf("Decode of %v, %v, %d: %v became %v", f, []byte(b), many, want, second)
			}
			decoded(t, f, b, want)
		}
	}
}

func TestBytesStayWhenListsAreWrittenOver(t *testing.T) {
	for _, f := range rightShares() {
		l := some(f, 40, 6)
		want := toldBytes(f, l)
		shares, row := slices.Clone(f), slices.Clone(l)
		got, _ := horn.Encode(shares, row)
		spoil(shares)
		spoil(row)
		horn.Encode([]int{255, 1}, repeat(1, 60))
		if got != want {
			t.Errorf("Encode of %v, %v: %v became %v", f, l, []byte(want), []byte(got))
		}
		encoded(t, f, l, want)
	}
}

func TestCallsAheadChangeNothing(t *testing.T) {
	f := []int{1, 255}
	for range 2 {
		encoded(t, f, []int{0, 1}, octets(1, 1, 0, 2))
		notEncoded(t, f, []int{2}, api.ErrRange)
		notEncoded(t, []int{0, 256}, []int{0}, api.ErrNone)
		notEncoded(t, f, repeat(1, 61), api.ErrFull)
		notEncoded(t, []int{1}, []int{0}, api.ErrShape)
		notDecoded(t, f, octets(1, 1, 0), 2, api.ErrSyntax)
		notDecoded(t, f, octets(1, 1, 0, 2), 61, api.ErrRange)
		notDecoded(t, f, octets(1, 1, 0, 2, 0), 2, api.ErrSyntax)
		atMost(t, f, []int{0, 1}, 5)
		decoded(t, f, octets(1, 1, 0, 2), []int{0, 1})
	}
}
