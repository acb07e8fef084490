package hide_test

import (
	"math"
	"slices"
	"testing"

	"pulsehorn/api"
	"pulsehorn/frame"
	"pulsehorn/hide"
	"pulsehorn/pack"
	"pulsehorn/plain"
	"pulsehorn/pulse"
)

// values has what each Gain tells, by hand; -1 of those that no number has.
var values = [54]int{
	0,
	1, -1, -1, -1,
	2, -1, 3, -1,
	4, 5, 6, 7,
	9, 11, 13, 15,
	18, 22, 26, 30,
	36, 44, 52, 60,
	72, 88, 104, 120,
	144, 176, 208, 240,
	288, 352, 416, 480,
	576, 704, 832, 960,
	1152, 1408, 1664, 1920,
	2304, 2816, 3328, 3840,
	4608, 5632, 6656, 7680,
	-1,
}

// behind has the Gain that each becomes in the place of one that is lost, by hand; -1 of those that no number has.
var behind = [54]int{
	0,
	0, -1, -1, -1,
	1, -1, 1, -1,
	5, 5, 7, 7,
	9, 10, 11, 12,
	13, 14, 15, 16,
	17, 18, 19, 20,
	21, 22, 23, 24,
	25, 26, 27, 28,
	29, 30, 31, 32,
	33, 34, 35, 36,
	37, 38, 39, 40,
	41, 42, 43, 44,
	45, 46, 47, 48,
	-1,
}

// mostLost is how many are lost in a row until any frame is silent: Gains 49 to 52 come to 9 to 12, to 5 and 7, to 1, and to 0.
const mostLost = 13

// rightGains has those of which there is a Value.
func rightGains() []int {
	var l []int
	for g, v := range values {
		if v >= 0 {
			l = append(l, g)
		}
	}
	return l
}

// wrongBits has those that no call takes.
func wrongBits() []int {
	return []int{-1, 401, 402, 1 << 32, -1 << 32, math.MaxInt, math.MinInt, math.MinInt + 1}
}

// part of a frame.
func part(gain int, pulses ...int) api.Part {
	return api.Part{Gain: gain, Pulses: pulses}
}

// parts makes a list of them.
func parts(l ...api.Part) []api.Part {
	return l
}

// repeat makes a list of one number, so many times.
func repeat(n, many int) []int {
	return slices.Repeat([]int{n}, many)
}

// some makes numbers from low to high that go up and down without a rule that a player could follow.
func some(low, high, many int, seed uint32) []int {
	l := make([]int, many)
	for i := range l {
		seed = seed*1664525 + 1013904223
		l[i] = low + int(seed>>8)%(high-low+1)
	}
	return l
}

// total of numbers.
func total(l []int) int {
	n := 0
	for _, m := range l {
		n += m
	}
	return n
}

// loudOf numbers: how many pulses they are.
func loudOf(l []int) int {
	n := 0
	for _, m := range l {
		n += max(m, -m)
	}
	return n
}

// silent tells whether samples are noughts only.
func silent(l []int) bool {
	return loudOf(l) == 0
}

// numbersOf a frame: as loud as its Gains, of the shape of its pulses.
func numbersOf(l []api.Part) []int {
	var numbers []int
	for _, p := range l {
		k := loudOf(p.Pulses)
		for _, n := range p.Pulses {
			far := 0
			if k > 0 {
				far = max(n, -n) * values[p.Gain] / k
			}
			if n < 0 {
				far = -far
			}
			numbers = append(numbers, far)
		}
	}
	return numbers
}

// down divides, rounded down.
func down(n, by int) int {
	return int(math.Floor(float64(n) / float64(by)))
}

// turned back are the samples of numbers, by the words of the chapter on edges.
func turned(numbers []int) []int {
	half := len(numbers) / 2
	stays, apart := numbers[:half], numbers[half:]
	samples := make([]int, len(numbers))
	for i := range half {
		samples[2*i] = stays[i] - down(apart[max(i-1, 0)]+apart[i]+2, 4)
	}
	for i := range half {
		next := 2 * i
		if i+1 < half {
			next = 2*i + 2
		}
		samples[2*i+1] = apart[i] + down(samples[2*i]+samples[next], 2)
	}
	return samples
}

// heard are the samples of a frame; false, if it is too loud to be decoded.
func heard(l []api.Part) ([]int, bool) {
	numbers := numbersOf(l)
	if slices.ContainsFunc(numbers, func(n int) bool { return n < -4000 || n > 4000 }) {
		return nil, false
	}
	return turned(numbers), true
}

// softened is a frame in the place of one that is lost.
func softened(l []api.Part) []api.Part {
	var softer []api.Part
	for _, p := range l {
		softer = append(softer, part(behind[p.Gain], p.Pulses...))
	}
	return softer
}

// rightSizes has sizes that New takes: few and many, small and great, alike and not, all of even numbers.
func rightSizes() [][]int {
	return [][]int{
		{2}, {4}, {6}, {1, 1}, {1, 3}, {3, 1}, {5, 1}, {2, 4}, {3, 5}, {6, 6}, {2, 1, 5}, {6, 3, 3}, {6, 1, 2, 3}, {4, 4, 4, 4},
		{6, 6, 6, 6, 6}, {6, 6, 6, 6, 6, 2}, repeat(1, 8), repeat(4, 8), {6, 1, 6, 2, 6, 3, 6, 2}, {1, 1, 1, 1, 1, 1, 1, 5},
	}
}

// oddSizes has sizes that go through, but for that they have not even as many numbers.
func oddSizes() [][]int {
	return [][]int{
		{1}, {3}, {5}, {1, 2}, {2, 1}, {4, 3}, {1, 6}, {5, 4, 6}, {1, 1, 1}, {2, 4, 6, 1},
		{6, 6, 6, 6, 6, 1}, {1, 1, 1, 1, 1, 1, 1}, {1, 1, 1, 1, 1, 1, 1, 2}, {4, 4, 4, 4, 4, 4, 4, 3},
	}
}

// badSizes has sizes that the chapter on bands refuses, and which error it tells of them.
func badSizes() map[string]struct {
	sizes []int
	want  api.Errno
} {
	type row = struct {
		sizes []int
		want  api.Errno
	}
	return map[string]row{
		"nil":                             {nil, api.ErrNone},
		"empty":                           {[]int{}, api.ErrNone},
		"one band too many":               {repeat(1, 9), api.ErrFull},
		"two bands too many":              {repeat(1, 10), api.ErrFull},
		"far too many bands":              {repeat(1, 5000), api.ErrFull},
		"too many, all wrong":             {repeat(math.MinInt, 9), api.ErrFull},
		"of 0":                            {[]int{0}, api.ErrRange},
		"one above":                       {[]int{7}, api.ErrRange},
		"two above":                       {[]int{8}, api.ErrRange},
		"below 0":                         {[]int{-1}, api.ErrRange},
		"the least":                       {[]int{math.MinInt}, api.ErrRange},
		"the greatest":                    {[]int{math.MaxInt}, api.ErrRange},
		"the last is 0":                   {[]int{1, 1, 0}, api.ErrRange},
		"below 0, which come to two":      {[]int{6, -4}, api.ErrRange},
		"more than may be in all, then 0": {[]int{6, 6, 6, 6, 6, 6, 0}, api.ErrRange},
		"one number too many":             {[]int{6, 6, 6, 6, 6, 3}, api.ErrFull},
		"two numbers too many":            {[]int{6, 6, 6, 6, 6, 4}, api.ErrFull},
		"one number too many, most bands": {[]int{4, 4, 4, 4, 4, 4, 4, 5}, api.ErrFull},
		"most bands of most":              {repeat(6, 8), api.ErrFull},
	}
}

// framed is a frame, its bytes, and by what these were packed.
type framed struct {
	l     []api.Part
	b     string
	sizes []int
	bits  int
}

// packed is a frame with its bytes.
func packed(t *testing.T, l []api.Part, sizes []int, bits int) framed {
	t.Helper()
	b, err := pack.Pack(l, sizes, bits)
	if err != nil {
		t.Fatalf("Pack of %v, %v, %d: %v", l, sizes, bits, err)
	}
	return framed{l, b, sizes, bits}
}

// byHand makes a frame of Gains, with the first rows, the last ones, or some, by turns.
func byHand(t *testing.T, gains, sizes []int, bits int, turn uint32) framed {
	t.Helper()
	var l []api.Part
	for _, g := range gains {
		l = append(l, part(g))
	}
	pulses, err := frame.PulsesFor(l, sizes, bits)
	if err != nil {
		t.Fatalf("PulsesFor %v, %v, %d: %v", l, sizes, bits, err)
	}
	for i, k := range pulses {
		many := rowsOf(t, sizes[i], k)
		rank := []int{0, many - 1, some(0, many-1, 1, turn+uint32(i)*977)[0]}[turn%3]
		if l[i].Pulses, err = pulse.Of(sizes[i], k, rank); err != nil {
			t.Fatalf("Of %d, %d, %d: %v", sizes[i], k, rank, err)
		}
	}
	return packed(t, l, sizes, bits)
}

// rowsOf so many numbers and pulses, how many there are: the last one has all pulses at the first number.
func rowsOf(t *testing.T, n, k int) int {
	t.Helper()
	last, err := pulse.Rank(append([]int{k}, repeat(0, n-1)...))
	if err != nil {
		t.Fatalf("Rank of %d, %d: %v", n, k, err)
	}
	return last + 1
}

// Frames that were made already.
var byHands, ofSamples []framed

// eachSetting goes over sizes and bits that New takes.
func eachSetting(do func(sizes []int, bits int)) {
	for _, sizes := range rightSizes() {
		for _, bits := range []int{0, 1, 3, 5, 10, 22, 41, 352, 400} {
			do(sizes, bits)
		}
	}
}

// handFrames are made of all kinds of Gains, some of them too loud to be decoded.
func handFrames(t *testing.T) []framed {
	t.Helper()
	if byHands != nil {
		return byHands
	}
	right := rightGains()
	turn := uint32(0)
	eachSetting(func(sizes []int, bits int) {
		for range 4 {
			turn++
			var gains []int
			for _, at := range some(0, len(right)-1, len(sizes), turn) {
				gains = append(gains, right[at])
			}
			byHands = append(byHands, byHand(t, gains, sizes, bits, turn))
		}
	})
	return byHands
}

// sampleFrames are made of samples: silent, soft and loud, smooth and rough, and without a rule.
func sampleFrames(t *testing.T) []framed {
	t.Helper()
	if ofSamples != nil {
		return ofSamples
	}
	eachSetting(func(sizes []int, bits int) {
		many := total(sizes)
		for _, l := range [][]int{
			repeat(0, many), repeat(1000, many), repeat(-1000, many), slices.Repeat([]int{900, -900}, many)[:many],
			some(-3, 3, many, uint32(bits)), some(-60, 60, many, uint32(bits)+9), some(-1000, 1000, many, uint32(bits)+19),
		} {
			if made, err := frame.Encode(l, sizes, bits); err == nil {
				ofSamples = append(ofSamples, packed(t, made, sizes, bits))
			}
		}
	})
	if len(ofSamples) < 1000 {
		t.Errorf("only %d frames were made", len(ofSamples))
	}
	return ofSamples
}

// allFrames has both.
func allFrames(t *testing.T) []framed {
	t.Helper()
	return slices.Concat(sampleFrames(t), handFrames(t))
}

// player of such sizes and bits, which New takes.
func player(t *testing.T, sizes []int, bits int) *hide.Player {
	t.Helper()
	p, err := hide.New(sizes, bits)
	if p == nil || err != nil {
		t.Fatalf("New of %v, %d: %v %v", sizes, bits, p, err)
	}
	return p
}

// refuses checks that New tells an error, and no Player.
func refuses(t *testing.T, sizes []int, bits int, want api.Errno) {
	t.Helper()
	if p, err := hide.New(sizes, bits); p != nil || plain.Told(err) != want {
		t.Errorf("New of %v, %d: %v %v, want %v", sizes, bits, p, err, want)
	}
}

// plays checks what Play tells, and that none is lost then.
func plays(t *testing.T, p *hide.Player, b string, want ...int) {
	t.Helper()
	if got, err := p.Play(b); !slices.Equal(got, want) || err != nil {
		t.Errorf("Play of %v: %v %v, want %v", []byte(b), got, err, want)
	}
	lost(t, p, 0)
}

// playsNone checks that Play tells an error, and answers nothing else, and that as many are lost as were.
func playsNone(t *testing.T, p *hide.Player, b string, want api.Errno) {
	t.Helper()
	was := p.Lost()
	if got, err := p.Play(b); len(got) != 0 || plain.Told(err) != want {
		t.Errorf("Play of %v: %v %v, want %v", []byte(b[:min(len(b), 99)]), got, err, want)
	}
	lost(t, p, was)
}

// loses checks what Lose tells, and that one more is lost then.
func loses(t *testing.T, p *hide.Player, want ...int) {
	t.Helper()
	was := p.Lost()
	if got := p.Lose(); !slices.Equal(got, want) {
		t.Errorf("Lose, behind %d: %v, want %v", was, got, want)
	}
	lost(t, p, was+1)
}

// lost checks how many were, in a row; twice, because asking changes nothing.
func lost(t *testing.T, p *hide.Player, want int) {
	t.Helper()
	if first, second := p.Lost(), p.Lost(); first != want || second != want {
		t.Errorf("Lost: %d, then %d, want %d", first, second, want)
	}
}

// losesLike checks what Lose tells behind a frame, which is softer with each, until it is silent; it tells what the frame became.
func losesLike(t *testing.T, p *hide.Player, l []api.Part, many int) []api.Part {
	t.Helper()
	for range many {
		l = softened(l)
		want, ok := heard(l)
		if !ok {
			t.Fatalf("%v is louder than one that was decoded", l)
		}
		loses(t, p, want...)
	}
	return l
}
