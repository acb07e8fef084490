package pack_test

import (
	"fmt"
	"math"
	"math/bits"
	"slices"
	"strconv"
	"strings"
	"testing"

	"pulsehorn/api"
	"pulsehorn/frame"
	"pulsehorn/pack"
	"pulsehorn/plain"
	"pulsehorn/share"
)

// values has what each Gain tells, by hand; -1 of those that no number has.
var values = [54]int{
	0,
	1, -1, -1, -1,
	2, -1, 3, -1,
	4, 5, 6, 7,
	9, 11, 13, 15,
	18, 22, 26, 30,
	36, 44, 52, 60,
	72, 88, 104, 120,
	144, 176, 208, 240,
	288, 352, 416, 480,
	576, 704, 832, 960,
	1152, 1408, 1664, 1920,
	2304, 2816, 3328, 3840,
	4608, 5632, 6656, 7680,
	-1,
}

// rightGains has those of which there is a Value.
func rightGains() []int {
	var l []int
	for g, v := range values {
		if v >= 0 {
			l = append(l, g)
		}
	}
	return l
}

// gainsOfNoValue has those that go into 6 bits, but tell nothing.
func gainsOfNoValue() []int {
	return []int{2, 3, 4, 6, 8, 53, 54, 55, 56, 57, 58, 59, 60, 61, 62, 63}
}

// wrongBits has those that no call takes.
func wrongBits() []int {
	return []int{-1, 401, 402, 1 << 32, -1 << 32, math.MaxInt, math.MaxInt - 48, math.MinInt, math.MinInt + 1}
}

// part of a frame.
func part(gain int, pulses ...int) api.Part {
	return api.Part{Gain: gain, Pulses: pulses}
}

// parts makes a list of them.
func parts(l ...api.Part) []api.Part {
	return l
}

// alike tells whether two frames are, a nil list of pulses being an empty one.
func alike(a, b []api.Part) bool {
	return slices.EqualFunc(a, b, func(a, b api.Part) bool { return a.Gain == b.Gain && slices.Equal(a.Pulses, b.Pulses) })
}

// copied is a frame in memory of its own.
func copied(l []api.Part) []api.Part {
	l = slices.Clone(l)
	for i := range l {
		l[i].Pulses = slices.Clone(l[i].Pulses)
	}
	return l
}

// with is a frame of which one Part is another one.
func with(l []api.Part, at int, p api.Part) []api.Part {
	l = copied(l)
	l[at] = p
	return l
}

// repeat makes a list of one number, so many times.
func repeat(n, many int) []int {
	return slices.Repeat([]int{n}, many)
}

// inTurn has two numbers in turn, so many in all.
func inTurn(a, b, many int) []int {
	return slices.Repeat([]int{a, b}, many)[:many]
}

// some makes numbers from low to high that go up and down without a rule that bytes could follow.
func some(low, high, many int, seed uint32) []int {
	l := make([]int, many)
	for i := range l {
		seed = seed*1664525 + 1013904223
		l[i] = low + int(seed>>8)%(high-low+1)
	}
	return l
}

// total of numbers.
func total(l []int) int {
	n := 0
	for _, m := range l {
		n += m
	}
	return n
}

// loudOf numbers: how many pulses they are.
func loudOf(l []int) int {
	n := 0
	for _, m := range l {
		n += max(m, -m)
	}
	return n
}

// octets makes a text of bytes.
func octets(b ...byte) string {
	return string(b)
}

// known has the rows that were made already.
var known = map[[2]int][][]int{}

// rows has all rows of n numbers and k pulses, in their order.
func rows(n, k int) [][]int {
	if n == 0 && k == 0 {
		return [][]int{{}}
	}
	if n == 0 {
		return nil
	}
	if l, ok := known[[2]int{n, k}]; ok {
		return l
	}
	var l [][]int
	for first := -k; first <= k; first++ {
		for _, rest := range rows(n-1, k-max(first, -first)) {
			l = append(l, append([]int{first}, rest...))
		}
	}
	known[[2]int{n, k}] = l
	return l
}

// wide is how many bits tell the rows of n numbers and k pulses apart: those of the last one's number.
func wide(n, k int) int {
	return bits.Len(uint(len(rows(n, k)) - 1))
}

// digits writes a number by the library, in so many bits.
func digits(n, many int) string {
	if many == 0 {
		return ""
	}
	return fmt.Sprintf("%0*b", many, n)
}

// octetsOf bits that are written as a text, spaces between where one likes: each is put at its place of its byte.
func octetsOf(s string) string {
	s = strings.ReplaceAll(s, " ", "")
	b := make([]byte, int(math.Ceil(float64(len(s))/8)))
	for i, c := range []byte(s) {
		b[i/8] += (c - '0') * []byte{128, 64, 32, 16, 8, 4, 2, 1}[i%8]
	}
	return string(b)
}

// spelt are the bits of a frame of which nothing is wrong.
func spelt(l []api.Part) string {
	var gains, ranks strings.Builder
	for _, p := range l {
		n, k := len(p.Pulses), loudOf(p.Pulses)
		rank, _ := slices.BinarySearchFunc(rows(n, k), p.Pulses, slices.Compare[[]int])
		gains.WriteString(digits(p.Gain, 6))
		ranks.WriteString(digits(rank, wide(n, k)))
	}
	return gains.String() + ranks.String()
}

// told are the bytes of a frame of which nothing is wrong.
func told(l []api.Part) string {
	return octetsOf(spelt(l))
}

// bitsOf bytes, as a text.
func bitsOf(b string) string {
	var s strings.Builder
	for _, c := range []byte(b) {
		fmt.Fprintf(&s, "%08b", c)
	}
	return s.String()
}

// taken reads a number of so many bits off the beginning of a text.
func taken(t *testing.T, s string, many int) (int, string) {
	t.Helper()
	n, err := strconv.ParseUint("0"+s[:many], 2, 32)
	if err != nil {
		t.Fatalf("%q is no number of %d bits: %v", s, many, err)
	}
	return int(n), s[many:]
}

// heard is the frame that bytes are by sizes and bits of which nothing is wrong; false, if they are none.
func heard(t *testing.T, b string, sizes []int, bits int) ([]api.Part, bool) {
	t.Helper()
	s := bitsOf(b)
	if len(s) < 6*len(sizes) {
		return nil, false
	}
	var l []api.Part
	var gains []int
	for range sizes {
		var g int
		g, s = taken(t, s, 6)
		if g >= len(values) || values[g] < 0 {
			return nil, false
		}
		gains = append(gains, g)
	}
	for i, k := range pulsesOf(t, gains, sizes, bits) {
		if len(s) < wide(sizes[i], k) {
			return nil, false
		}
		var rank int
		rank, s = taken(t, s, wide(sizes[i], k))
		if rank >= len(rows(sizes[i], k)) {
			return nil, false
		}
		l = append(l, part(gains[i], rows(sizes[i], k)[rank]...))
	}
	return l, len(s) < 8 && strings.Trim(s, "0") == ""
}

// pulsesOf bands that are as loud as such Gains.
func pulsesOf(t *testing.T, gains, sizes []int, bits int) []int {
	t.Helper()
	var loud []int
	for _, g := range gains {
		loud = append(loud, values[g])
	}
	pulses, err := share.Of(sizes, loud, bits)
	if err != nil {
		t.Fatalf("Of %v, %v, %d: %v", sizes, loud, bits, err)
	}
	return pulses
}

// byHand makes a frame of Gains, with the rows that choose takes of those that may be.
func byHand(t *testing.T, gains, sizes []int, bits int, choose func(at, many int) int) []api.Part {
	t.Helper()
	var l []api.Part
	for i, k := range pulsesOf(t, gains, sizes, bits) {
		all := rows(sizes[i], k)
		l = append(l, part(gains[i], all[choose(i, len(all))]...))
	}
	return l
}

// rightSizes has sizes that no call refuses: few and many, small and great, alike and not, even and odd in all.
func rightSizes() [][]int {
	return [][]int{
		{1}, {2}, {3}, {4}, {5}, {6}, {1, 1}, {1, 2}, {1, 3}, {3, 1}, {5, 1}, {2, 4}, {4, 3}, {6, 6}, {1, 6}, {6, 1},
		{2, 1, 5}, {6, 3, 3}, {5, 4, 3}, {1, 2, 3}, {1, 1, 1}, {6, 1, 2, 3}, {4, 4, 4, 4}, {3, 3, 3, 3}, {1, 2, 1, 2, 1},
		{6, 6, 6, 6, 6}, {6, 6, 6, 6, 6, 2}, {6, 6, 6, 6, 6, 1, 1}, {5, 5, 5, 5, 5, 5, 2}, {2, 2, 2, 2, 2, 2, 2},
		repeat(1, 8), repeat(4, 8), {6, 1, 6, 2, 6, 3, 6, 2}, {1, 1, 1, 1, 1, 1, 1, 5}, {6, 6, 6, 6, 4, 2, 1, 1},
	}
}

// someBits has how many bits there may be: none, few, some, and more than any bands need.
func someBits() []int {
	return []int{0, 1, 2, 3, 4, 5, 7, 10, 14, 22, 41, 79, 352, 400}
}

// eachSetting goes over sizes and bits that no call refuses.
func eachSetting(do func(sizes []int, bits int)) {
	for _, sizes := range rightSizes() {
		for _, bits := range someBits() {
			do(sizes, bits)
		}
	}
}

// framed is a frame, and by what it is packed.
type framed struct {
	l     []api.Part
	sizes []int
	bits  int
}

// Frames that were made already.
var byHands, ofSamples []framed

// makeByHands has frames that were made by hand: of all kinds of Gains, with the first, the last, and some rows.
func makeByHands(t *testing.T) []framed {
	t.Helper()
	right := rightGains()
	var all []framed
	eachSetting(func(sizes []int, bits int) {
		for seed := range uint32(3) {
			var gains []int
			for _, at := range some(0, len(right)-1, len(sizes), seed*31+uint32(bits)) {
				gains = append(gains, right[at])
			}
			for _, choose := range []func(at, many int) int{
				func(_, _ int) int { return 0 },
				func(_, many int) int { return many - 1 },
				func(at, many int) int { return some(0, many-1, 1, seed+uint32(at)*977)[0] },
			} {
				all = append(all, framed{byHand(t, gains, sizes, bits, choose), sizes, bits})
			}
		}
	})
	return all
}

// eachHandFrame goes over frames that were made by hand.
func eachHandFrame(t *testing.T, do func(l []api.Part, sizes []int, bits int)) {
	t.Helper()
	if byHands == nil {
		byHands = makeByHands(t)
	}
	for _, f := range byHands {
		do(copied(f.l), slices.Clone(f.sizes), f.bits)
	}
}

// sounds has samples, so many: silent, soft and loud, smooth and rough, at the edges, and without a rule.
func sounds(many int) [][]int {
	all := [][]int{
		repeat(0, many), repeat(1, many), repeat(1000, many), repeat(-1000, many), inTurn(1000, -1000, many), inTurn(0, 1, many),
		append(repeat(0, many/2), repeat(500, many-many/2)...), append(inTurn(900, -900, many/2), repeat(0, many-many/2)...),
	}
	for seed := range uint32(3) {
		all = append(all, some(-3, 3, many, seed), some(-60, 60, many, seed+9), some(-1000, 1000, many, seed+19))
	}
	return all
}

// makeOfSamples has frames that were made of samples.
func makeOfSamples(t *testing.T) []framed {
	t.Helper()
	var all []framed
	eachSetting(func(sizes []int, bits int) {
		if total(sizes)%2 != 0 {
			return
		}
		for _, l := range sounds(total(sizes)) {
			if made, err := frame.Encode(l, sizes, bits); err == nil {
				all = append(all, framed{made, sizes, bits})
			}
		}
	})
	if len(all) < 3000 {
		t.Errorf("only %d frames were made", len(all))
	}
	return all
}

// eachMadeFrame goes over frames that were made of samples.
func eachMadeFrame(t *testing.T, do func(l []api.Part, sizes []int, bits int)) {
	t.Helper()
	if ofSamples == nil {
		ofSamples = makeOfSamples(t)
	}
	for _, f := range ofSamples {
		do(copied(f.l), slices.Clone(f.sizes), f.bits)
	}
}

// eachFrame goes over all of these.
func eachFrame(t *testing.T, do func(l []api.Part, sizes []int, bits int)) {
	t.Helper()
	eachMadeFrame(t, do)
	eachHandFrame(t, do)
}

// packs checks the bytes of a frame.
func packs(t *testing.T, l []api.Part, sizes []int, bits int, want string) {
	t.Helper()
	if got, err := pack.Pack(l, sizes, bits); got != want || err != nil {
		t.Errorf("Pack of %v, %v, %d: %v %v, want %v", l, sizes, bits, []byte(got), err, []byte(want))
	}
}

// packsNone checks that Pack tells an error, and answers nothing else.
func packsNone(t *testing.T, l []api.Part, sizes []int, bits int, want api.Errno) {
	t.Helper()
	if got, err := pack.Pack(l, sizes, bits); got != "" || plain.Told(err) != want {
		t.Errorf("Pack of %v, %v, %d: %v %v, want %v", l, sizes, bits, []byte(got), err, want)
	}
}

// reads checks the frame of bytes.
func reads(t *testing.T, b string, sizes []int, bits int, want []api.Part) {
	t.Helper()
	if got, err := pack.Unpack(b, sizes, bits); !alike(got, want) || err != nil {
		t.Errorf("Unpack of %v, %v, %d: %v %v, want %v", []byte(b), sizes, bits, got, err, want)
	}
}

// readsNone checks that Unpack tells an error, and answers nothing else.
func readsNone(t *testing.T, b string, sizes []int, bits int, want api.Errno) {
	t.Helper()
	if got, err := pack.Unpack(b, sizes, bits); len(got) != 0 || plain.Told(err) != want {
		t.Errorf("Unpack of %v, %v, %d: %v %v, want %v", []byte(b[:min(len(b), 99)]), sizes, bits, got, err, want)
	}
}

// both checks the bytes of a frame, and that these are the frame again.
func both(t *testing.T, l []api.Part, sizes []int, bits int, want string) {
	t.Helper()
	packs(t, l, sizes, bits, want)
	reads(t, want, sizes, bits, l)
}

// readsAsHeard checks Unpack of bytes, whatever they are, and that what it takes is packed again as the same bytes; it tells whether it took them.
func readsAsHeard(t *testing.T, b string, sizes []int, bits int) bool {
	t.Helper()
	want, ok := heard(t, b, sizes, bits)
	if ok {
		both(t, want, sizes, bits, b)
	} else {
		readsNone(t, b, sizes, bits, api.ErrSyntax)
	}
	return ok
}

// long checks what Long tells.
func long(t *testing.T, sizes []int, bits, want int) {
	t.Helper()
	if got, err := pack.Long(sizes, bits); got != want || err != nil {
		t.Errorf("Long of %v, %d: %d %v, want %d", sizes, bits, got, err, want)
	}
}

// notLong checks that Long tells an error, and answers nothing else.
func notLong(t *testing.T, sizes []int, bits int, want api.Errno) {
	t.Helper()
	if got, err := pack.Long(sizes, bits); got != 0 || plain.Told(err) != want {
		t.Errorf("Long of %v, %d: %d %v, want %v", sizes, bits, got, err, want)
	}
}

// badSizes has sizes that every call refuses, and which error it tells of them.
func badSizes() map[string]struct {
	sizes []int
	want  api.Errno
} {
	type row = struct {
		sizes []int
		want  api.Errno
	}
	return map[string]row{
		"nil":                             {nil, api.ErrNone},
		"empty":                           {[]int{}, api.ErrNone},
		"one band too many":               {repeat(1, 9), api.ErrFull},
		"far too many bands":              {repeat(1, 5000), api.ErrFull},
		"too many, all wrong":             {repeat(math.MinInt, 9), api.ErrFull},
		"of 0":                            {[]int{0}, api.ErrRange},
		"one above":                       {[]int{7}, api.ErrRange},
		"below 0":                         {[]int{-1}, api.ErrRange},
		"the least":                       {[]int{math.MinInt}, api.ErrRange},
		"the greatest":                    {[]int{math.MaxInt}, api.ErrRange},
		"the last is 0":                   {[]int{1, 1, 0}, api.ErrRange},
		"below 0, which come to two":      {[]int{6, -4}, api.ErrRange},
		"more than may be in all, then 0": {[]int{6, 6, 6, 6, 6, 6, 0}, api.ErrRange},
		"one number too many":             {[]int{6, 6, 6, 6, 6, 3}, api.ErrFull},
		"one number too many, most bands": {[]int{4, 4, 4, 4, 4, 4, 4, 5}, api.ErrFull},
		"most bands of most":              {repeat(6, 8), api.ErrFull},
	}
}
