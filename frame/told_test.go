package frame_test

import (
	"math"
	"slices"
	"testing"

	"pulsehorn/api"
	"pulsehorn/frame"
	"pulsehorn/plain"
	"pulsehorn/share"
)

// values has what each Gain tells, by hand; -1 of those that no number has.
var values = [54]int{
	0,
	1, -1, -1, -1,
	2, -1, 3, -1,
	4, 5, 6, 7,
	9, 11, 13, 15,
	18, 22, 26, 30,
	36, 44, 52, 60,
	72, 88, 104, 120,
	144, 176, 208, 240,
	288, 352, 416, 480,
	576, 704, 832, 960,
	1152, 1408, 1664, 1920,
	2304, 2816, 3328, 3840,
	4608, 5632, 6656, 7680,
	-1,
}

// wrongGains has those of which there is no Value.
func wrongGains() []int {
	return []int{-1, 2, 3, 4, 6, 8, 53, 54, 55, 100, 1 << 32, -1 << 32, math.MaxInt, math.MinInt, math.MinInt + 1}
}

// wrongBits has those that no call takes.
func wrongBits() []int {
	return []int{-1, 401, 402, 1 << 32, -1 << 32, math.MaxInt, math.MinInt, math.MinInt + 1}
}

// part of a frame.
func part(gain int, pulses ...int) api.Part {
	return api.Part{Gain: gain, Pulses: pulses}
}

// parts makes a list of them.
func parts(l ...api.Part) []api.Part {
	return l
}

// alike tells whether two frames are, a nil list of pulses being an empty one.
func alike(a, b []api.Part) bool {
	return slices.EqualFunc(a, b, func(a, b api.Part) bool { return a.Gain == b.Gain && slices.Equal(a.Pulses, b.Pulses) })
}

// copied is a frame in memory of its own.
func copied(l []api.Part) []api.Part {
	l = slices.Clone(l)
	for i := range l {
		l[i].Pulses = slices.Clone(l[i].Pulses)
	}
	return l
}

// repeat makes a list of one number, so many times.
func repeat(n, many int) []int {
	return slices.Repeat([]int{n}, many)
}

// place puts a number into a list of another one.
func place(other, many, at, n int) []int {
	l := repeat(other, many)
	l[at] = n
	return l
}

// inTurn has two numbers in turn, so many in all.
func inTurn(a, b, many int) []int {
	return slices.Repeat([]int{a, b}, many)[:many]
}

// some makes numbers from low to high that go up and down without a rule that a frame could follow.
func some(low, high, many int, seed uint32) []int {
	l := make([]int, many)
	for i := range l {
		seed = seed*1664525 + 1013904223
		l[i] = low + int(seed>>8)%(high-low+1)
	}
	return l
}

// total of numbers.
func total(l []int) int {
	n := 0
	for _, m := range l {
		n += m
	}
	return n
}

// loudOf numbers, however great.
func loudOf(l []int) int {
	n := 0
	for _, m := range l {
		n += max(m, -m)
	}
	return n
}

// down divides, rounded down.
func down(n, by int) int {
	q := n / by
	if q*by > n {
		q--
	}
	return q
}

// beside an odd place, what those there tell it to be.
func beside(l []int, at int) int {
	if at+1 < len(l) {
		return down(l[at-1]+l[at+1], 2)
	}
	return l[at-1]
}

// lapped as chapter 4 tells it, number by number.
func lapped(l []int) []int {
	var stay, differences []int
	for i := 1; i < len(l); i += 2 {
		differences = append(differences, l[i]-beside(l, i))
	}
	for i, d := range differences {
		ahead := differences[max(i-1, 0)]
		stay = append(stay, l[2*i]+down(ahead+d+2, 4))
	}
	return append(stay, differences...)
}

// unlapped is what was lapped, number by number.
func unlapped(l []int) []int {
	half := len(l) / 2
	back := make([]int, len(l))
	for i := range half {
		ahead := l[half+max(i-1, 0)]
		back[2*i] = l[i] - down(ahead+l[half+i]+2, 4)
	}
	for i := range half {
		back[2*i+1] = l[half+i] + beside(back, 2*i+1)
	}
	return back
}

// gainOf a number, by how many fourth parts of its power are in all of it: four of these are the power itself.
func gainOf(n int) int {
	if n == 0 {
		return 0
	}
	power, m := 1, 0
	for 2*power <= n {
		power, m = 2*power, m+1
	}
	return 1 + 4*m + 4*n/power - 4
}

// shape of numbers in so many pulses: whole shares, and one by one to the greatest rest.
func shape(v []int, k int) []int {
	p, loud := make([]int, len(v)), loudOf(v)
	if k == 0 {
		return p
	}
	rests, left := make([]int, len(v)), k
	for i, n := range v {
		p[i], rests[i] = k*max(n, -n)/loud, k*max(n, -n)%loud
		left -= p[i]
	}
	for range left {
		at := slices.Index(rests, slices.Max(rests))
		p[at]++
		rests[at] = -1
	}
	for i, n := range v {
		if n < 0 {
			p[i] = -p[i]
		}
	}
	return p
}

// cut numbers into bands.
func cut(l, sizes []int) [][]int {
	var bands [][]int
	for _, n := range sizes {
		bands = append(bands, l[:n])
		l = l[n:]
	}
	return bands
}

// told is the frame of samples of which nothing is wrong but that a band may be too loud.
func told(t *testing.T, l, sizes []int, bits int) ([]api.Part, error) {
	t.Helper()
	bands := cut(lapped(l), sizes)
	var frame []api.Part
	var loud []int
	for _, b := range bands {
		if loudOf(b) > 8000 {
			return nil, api.ErrFull
		}
		g := gainOf(loudOf(b))
		frame, loud = append(frame, part(g)), append(loud, values[g])
	}
	pulses, err := share.Of(sizes, loud, bits)
	if err != nil {
		t.Fatalf("Of %v, %v, %d: %v", sizes, loud, bits, err)
	}
	for i, b := range bands {
		frame[i].Pulses = shape(b, pulses[i])
	}
	return frame, nil
}

// heard are the numbers that a frame tells, not yet turned back.
func heard(l []api.Part) []int {
	var numbers []int
	for _, p := range l {
		k := loudOf(p.Pulses)
		for _, n := range p.Pulses {
			far := 0
			if k > 0 {
				far = max(n, -n) * values[p.Gain] / k
			}
			if n < 0 {
				far = -far
			}
			numbers = append(numbers, far)
		}
	}
	return numbers
}

// evenSizes has sizes that no call refuses, of even numbers in all: few and many, small and great, alike and not.
func evenSizes() [][]int {
	return [][]int{
		{2}, {4}, {6}, {1, 1}, {1, 3}, {3, 1}, {5, 1}, {2, 4}, {3, 5}, {4, 4}, {6, 6},
		{2, 1, 5}, {6, 3, 3}, {5, 4, 3}, {1, 2, 3}, {6, 1, 2, 3}, {4, 4, 4, 4}, {6, 6, 6, 6, 6}, {6, 6, 6, 6, 6, 2},
		repeat(1, 8), repeat(4, 8), {6, 1, 6, 2, 6, 3, 6, 2}, {1, 1, 1, 1, 1, 1, 1, 5},
	}
}

// sounds has samples, so many, none refused by itself: silent, soft and loud, smooth and rough, at the edges, and without a rule.
func sounds(many int) [][]int {
	all := [][]int{
		repeat(0, many), repeat(1, many), repeat(-1, many), repeat(1000, many), repeat(-1000, many),
		inTurn(1000, -1000, many), inTurn(-1000, 1000, many), inTurn(600, -600, many), inTurn(0, 1, many), inTurn(0, 1000, many),
		place(0, many, 0, 1000), place(0, many, many-1, -1000), place(7, many, many/2, -7), place(0, many, many/2, 1),
		append(repeat(0, many/2), repeat(500, many-many/2)...), append(inTurn(900, -900, many/2), repeat(0, many-many/2)...),
	}
	for seed := range uint32(4) {
		all = append(all, some(-3, 3, many, seed), some(-60, 60, many, seed+9), some(-1000, 1000, many, seed+19), some(900, 1000, many, seed+29))
	}
	return all
}

// someBits has how many bits there may be: none, few, some, and more than any bands need.
func someBits() []int {
	return []int{0, 1, 2, 3, 4, 5, 7, 10, 14, 22, 41, 79, 400}
}

// eachSound goes over what no call refuses but where a band is too loud.
func eachSound(do func(l, sizes []int, bits int)) {
	for _, sizes := range evenSizes() {
		for _, l := range sounds(total(sizes)) {
			for _, bits := range someBits() {
				do(l, sizes, bits)
			}
		}
	}
}

// eachFrame goes over the frames of these.
func eachFrame(t *testing.T, do func(l []api.Part, sizes []int, bits int)) {
	t.Helper()
	eachSound(func(l, sizes []int, bits int) {
		if made, err := told(t, l, sizes, bits); err == nil {
			do(made, sizes, bits)
		}
	})
}

// makes checks the frame of samples.
func makes(t *testing.T, l, sizes []int, bits int, want []api.Part) {
	t.Helper()
	if got, err := frame.Encode(l, sizes, bits); !alike(got, want) || err != nil {
		t.Errorf("Encode of %v, %v, %d: %v %v, want %v", l, sizes, bits, got, err, want)
	}
}

// makesNone checks that Encode tells an error, and answers nothing else.
func makesNone(t *testing.T, l, sizes []int, bits int, want api.Errno) {
	t.Helper()
	if got, err := frame.Encode(l, sizes, bits); got != nil || plain.Told(err) != want {
		t.Errorf("Encode of %v, %v, %d: %v %v, want %v", l, sizes, bits, got, err, want)
	}
}

// tells checks the samples of a frame.
func tells(t *testing.T, l []api.Part, want ...int) {
	t.Helper()
	if got, err := frame.Decode(l); !slices.Equal(got, want) || err != nil {
		t.Errorf("Decode of %v: %v %v, want %v", l, got, err, want)
	}
}

// tellsNone checks that Decode tells an error, and answers nothing else.
func tellsNone(t *testing.T, l []api.Part, want api.Errno) {
	t.Helper()
	if got, err := frame.Decode(l); got != nil || plain.Told(err) != want {
		t.Errorf("Decode of %v: %v %v, want %v", l, got, err, want)
	}
}

// checks what Check tells: OK of what is right.
func checks(t *testing.T, l []api.Part, sizes []int, bits int, want api.Errno) {
	t.Helper()
	if err := frame.Check(l, sizes, bits); plain.Told(err) != want {
		t.Errorf("Check of %v, %v, %d: %v, want %v", l, sizes, bits, err, want)
	}
}

// badSizes has sizes that every call refuses, and which error it tells of them.
func badSizes() map[string]struct {
	sizes []int
	want  api.Errno
} {
	type row = struct {
		sizes []int
		want  api.Errno
	}
	return map[string]row{
		"nil":                             {nil, api.ErrNone},
		"empty":                           {[]int{}, api.ErrNone},
		"one band too many":               {repeat(1, 9), api.ErrFull},
		"far too many bands":              {repeat(1, 5000), api.ErrFull},
		"too many, all wrong":             {repeat(math.MinInt, 9), api.ErrFull},
		"of 0":                            {[]int{0}, api.ErrRange},
		"one above":                       {[]int{7}, api.ErrRange},
		"below 0":                         {[]int{-1}, api.ErrRange},
		"the least":                       {[]int{math.MinInt}, api.ErrRange},
		"the greatest":                    {[]int{math.MaxInt}, api.ErrRange},
		"the last is 0":                   {[]int{1, 1, 0}, api.ErrRange},
		"below 0, which come to two":      {[]int{6, -4}, api.ErrRange},
		"more than may be in all, then 0": {[]int{6, 6, 6, 6, 6, 6, 0}, api.ErrRange},
		"one number too many":             {[]int{6, 6, 6, 6, 6, 3}, api.ErrFull},
		"one number too many, most bands": {[]int{4, 4, 4, 4, 4, 4, 4, 5}, api.ErrFull},
		"most bands of most":              {repeat(6, 8), api.ErrFull},
	}
}
