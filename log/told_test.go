package log_test

import (
	"fmt"
	"math"
	"slices"
	"testing"

	"pulsehorn/api"
	"pulsehorn/frame"
	"pulsehorn/log"
	"pulsehorn/pack"
	"pulsehorn/plain"
	"pulsehorn/pulse"
)

// most is how many frames there may be.
const most = 20

// rightGains has those of which there is a Value, by hand.
func rightGains() []int {
	l := []int{0, 1, 5, 7}
	for g := 9; g <= 52; g++ {
		l = append(l, g)
	}
	return l
}

// wrongBits has those that no call takes.
func wrongBits() []int {
	return []int{-1, 401, 402, 1 << 32, -1 << 32, math.MaxInt, math.MinInt, math.MinInt + 1}
}

// part of a frame.
func part(gain int, pulses ...int) api.Part {
	return api.Part{Gain: gain, Pulses: pulses}
}

// parts makes a list of them.
func parts(l ...api.Part) []api.Part {
	return l
}

// repeat makes a list of one number, so many times.
func repeat(n, many int) []int {
	return slices.Repeat([]int{n}, many)
}

// some makes numbers from low to high that go up and down without a rule that a player could follow.
func some(low, high, many int, seed uint32) []int {
	l := make([]int, many)
	for i := range l {
		seed = seed*1664525 + 1013904223
		l[i] = low + int(seed>>8)%(high-low+1)
	}
	return l
}

// total of numbers.
func total(l []int) int {
	n := 0
	for _, m := range l {
		n += m
	}
	return n
}

// rightSizes has sizes that New takes: few and many, small and great, alike and not, all of even numbers.
func rightSizes() [][]int {
	return [][]int{
		{2}, {4}, {6}, {1, 1}, {1, 3}, {3, 1}, {5, 1}, {2, 4}, {3, 5}, {6, 6}, {2, 1, 5}, {6, 3, 3}, {6, 1, 2, 3}, {4, 4, 4, 4},
		{6, 6, 6, 6, 6}, {6, 6, 6, 6, 6, 2}, repeat(1, 8), repeat(4, 8), {6, 1, 6, 2, 6, 3, 6, 2}, {1, 1, 1, 1, 1, 1, 1, 5},
	}
}

// oddSizes has sizes that go through, but for that they have not even as many numbers.
func oddSizes() [][]int {
	return [][]int{
		{1}, {3}, {5}, {1, 2}, {2, 1}, {4, 3}, {1, 6}, {5, 4, 6}, {1, 1, 1}, {2, 4, 6, 1},
		{6, 6, 6, 6, 6, 1}, {1, 1, 1, 1, 1, 1, 1}, {1, 1, 1, 1, 1, 1, 1, 2}, {4, 4, 4, 4, 4, 4, 4, 3},
	}
}

// badSizes has sizes that the chapter on bands refuses, and which error it tells of them.
func badSizes() map[string]struct {
	sizes []int
	want  api.Errno
} {
	type row = struct {
		sizes []int
		want  api.Errno
	}
	return map[string]row{
		"nil":                             {nil, api.ErrNone},
		"empty":                           {[]int{}, api.ErrNone},
		"one band too many":               {repeat(1, 9), api.ErrFull},
		"two bands too many":              {repeat(1, 10), api.ErrFull},
		"far too many bands":              {repeat(1, 5000), api.ErrFull},
		"too many, all wrong":             {repeat(math.MinInt, 9), api.ErrFull},
		"of 0":                            {[]int{0}, api.ErrRange},
		"one above":                       {[]int{7}, api.ErrRange},
		"two above":                       {[]int{8}, api.ErrRange},
		"below 0":                         {[]int{-1}, api.ErrRange},
		"the least":                       {[]int{math.MinInt}, api.ErrRange},
		"the greatest":                    {[]int{math.MaxInt}, api.ErrRange},
		"the last is 0":                   {[]int{1, 1, 0}, api.ErrRange},
		"below 0, which come to two":      {[]int{6, -4}, api.ErrRange},
		"more than may be in all, then 0": {[]int{6, 6, 6, 6, 6, 6, 0}, api.ErrRange},
		"one number too many":             {[]int{6, 6, 6, 6, 6, 3}, api.ErrFull},
		"two numbers too many":            {[]int{6, 6, 6, 6, 6, 4}, api.ErrFull},
		"one number too many, most bands": {[]int{4, 4, 4, 4, 4, 4, 4, 5}, api.ErrFull},
		"most bands of most":              {repeat(6, 8), api.ErrFull},
	}
}

// setting is what frames are packed by.
type setting struct {
	sizes []int
	bits  int
}

// settings has sizes and bits that New takes.
func settings() []setting {
	var l []setting
	for _, sizes := range rightSizes() {
		for _, bits := range []int{0, 1, 3, 5, 10, 22, 41, 352, 400} {
			l = append(l, setting{sizes, bits})
		}
	}
	return l
}

// few of the settings, for what is dear.
func few() []setting {
	var l []setting
	for i, s := range settings() {
		if i%13 == 0 {
			l = append(l, s)
		}
	}
	return l
}

// packed is a frame as bytes.
func packed(t *testing.T, l []api.Part, s setting) string {
	t.Helper()
	b, err := pack.Pack(l, s.sizes, s.bits)
	if err != nil {
		t.Fatalf("Pack of %v, %v: %v", l, s, err)
	}
	return b
}

// byHand makes a frame of Gains, with the first rows, the last ones, or some, by turns.
func byHand(t *testing.T, gains []int, s setting, turn uint32) string {
	t.Helper()
	var l []api.Part
	for _, g := range gains {
		l = append(l, part(g))
	}
	pulses, err := frame.PulsesFor(l, s.sizes, s.bits)
	if err != nil {
		t.Fatalf("PulsesFor %v, %v: %v", l, s, err)
	}
	for i, k := range pulses {
		many := rowsOf(t, s.sizes[i], k)
		rank := []int{0, many - 1, some(0, many-1, 1, turn+uint32(i)*977)[0]}[turn%3]
		if l[i].Pulses, err = pulse.Of(s.sizes[i], k, rank); err != nil {
			t.Fatalf("Of %d, %d, %d: %v", s.sizes[i], k, rank, err)
		}
	}
	return packed(t, l, s)
}

// rowsOf so many numbers and pulses, how many there are: the last one has all pulses at the first number.
func rowsOf(t *testing.T, n, k int) int {
	t.Helper()
	last, err := pulse.Rank(append([]int{k}, repeat(0, n-1)...))
	if err != nil {
		t.Fatalf("Rank of %d, %d: %v", n, k, err)
	}
	return last + 1
}

// handFrames are made of all kinds of Gains, some of them too loud to be decoded.
func handFrames(t *testing.T, s setting, many int) []string {
	t.Helper()
	right := rightGains()
	var l []string
	for turn := range uint32(many) {
		var gains []int
		for _, at := range some(0, len(right)-1, len(s.sizes), turn+uint32(s.bits)) {
			gains = append(gains, right[at])
		}
		l = append(l, byHand(t, gains, s, turn))
	}
	return l
}

// sampleFrames are made of samples: silent, soft and loud, smooth and rough, and without a rule.
func sampleFrames(t *testing.T, s setting) []string {
	t.Helper()
	many := total(s.sizes)
	var frames []string
	for _, l := range [][]int{
		some(-60, 60, many, uint32(s.bits)+9), repeat(0, many), repeat(1000, many), some(-1000, 1000, many, uint32(s.bits)+19),
		repeat(-1000, many), slices.Repeat([]int{900, -900}, many)[:many], some(-3, 3, many, uint32(s.bits)),
	} {
		if made, err := frame.Encode(l, s.sizes, s.bits); err == nil {
			frames = append(frames, packed(t, made, s))
		}
	}
	if len(frames) == 0 {
		t.Fatalf("no frame of samples for %v", s)
	}
	return frames
}

// madeAlready has the frames of a setting, by its text.
var madeAlready = map[string][]string{}

// framesOf a setting has so many, 30 at most, those of samples and those that were made by hand by turns.
func framesOf(t *testing.T, s setting, many int) []string {
	t.Helper()
	name := fmt.Sprint(s)
	if madeAlready[name] == nil {
		ofSamples := sampleFrames(t, s)
		for i, b := range handFrames(t, s, 15) {
			madeAlready[name] = append(madeAlready[name], ofSamples[i%len(ofSamples)], b)
		}
	}
	return slices.Clone(madeAlready[name][:many])
}

// wrongFrames has texts that are none of a setting's: empty ones, a byte too many, one too few, a Gain that there is none of.
func wrongFrames(right string) []string {
	return []string{
		"", right + "\x00", right + "\x01", right + "\xff", right + right, right[:len(right)-1],
		"\xff" + right[1:], "\x08" + right[1:], string(make([]byte, 5000)), string(make([]byte, 256+len(right))),
	}
}

// made is a Log of a setting that New takes, and has nothing at first.
func made(t *testing.T, s setting) *log.Log {
	t.Helper()
	l, err := log.New(s.sizes, s.bits)
	if l == nil || err != nil {
		t.Fatalf("New of %v: %v %v", s, l, err)
	}
	has(t, l, 0, 0)
	return l
}

// refuses checks that New tells an error, and no Log.
func refuses(t *testing.T, sizes []int, bits int, want api.Errno) {
	t.Helper()
	if l, err := log.New(sizes, bits); l != nil || plain.Told(err) != want {
		t.Errorf("New of %v, %d: %v %v, want %v", sizes, bits, l, err, want)
	}
}

// has checks what is told of a Log; twice, because asking changes nothing.
func has(t *testing.T, l *log.Log, bytes, safe int, frames ...string) {
	t.Helper()
	for range 2 {
		if got := l.All(); !slices.Equal(got, frames) {
			t.Errorf("All: %q, want %q", got, frames)
		}
		if got := l.Bytes(); got != bytes {
			t.Errorf("Bytes: %d, want %d", got, bytes)
		}
		if got := l.Safe(); got != safe {
			t.Errorf("Safe: %d, want %d", got, safe)
		}
	}
}

// puts checks that frames are put, each behind those that were there, in a record of two bytes or more, and that none is safe by that.
func puts(t *testing.T, l *log.Log, frames ...string) {
	t.Helper()
	for _, b := range frames {
		were, bytes, safe := l.All(), l.Bytes(), l.Safe()
		if err := l.Put(b); err != nil {
			t.Fatalf("Put of %q: %v", b, err)
		}
		if now := l.Bytes(); now < bytes+2 {
			t.Errorf("Put of %q: %d bytes, then %d", b, bytes, now)
		}
		has(t, l, l.Bytes(), safe, append(were, b)...)
	}
}

// putsNone checks that Put tells an error, and changes nothing.
func putsNone(t *testing.T, l *log.Log, b string, want api.Errno) {
	t.Helper()
	frames, bytes, safe := l.All(), l.Bytes(), l.Safe()
	if err := l.Put(b); plain.Told(err) != want {
		t.Errorf("Put of %q: %v, want %v", b[:min(len(b), 99)], err, want)
	}
	has(t, l, bytes, safe, frames...)
}

// putsHalf checks that Put stops: half of the record is there then, the frames as they were.
func putsHalf(t *testing.T, l *log.Log, b string, long int) {
	t.Helper()
	frames, bytes, safe := l.All(), l.Bytes(), l.Safe()
	if err := l.Put(b); plain.Told(err) != api.ErrState {
		t.Errorf("Put of %q: %v, want ErrState", b, err)
	}
	has(t, l, bytes+long/2, safe, frames...)
}

// syncs checks that all that is there is safe behind it.
func syncs(t *testing.T, l *log.Log) {
	t.Helper()
	frames, bytes := l.All(), l.Bytes()
	if err := l.Sync(); err != nil {
		t.Errorf("Sync: %v", err)
	}
	has(t, l, bytes, bytes, frames...)
}

// syncsNone checks that Sync tells ErrState, and changes nothing.
func syncsNone(t *testing.T, l *log.Log) {
	t.Helper()
	frames, bytes, safe := l.All(), l.Bytes(), l.Safe()
	if err := l.Sync(); plain.Told(err) != api.ErrState {
		t.Errorf("Sync: %v, want ErrState", err)
	}
	has(t, l, bytes, safe, frames...)
}

// hasStopped checks that each step is refused, whatever it is.
func hasStopped(t *testing.T, l *log.Log, right string) {
	t.Helper()
	for range 3 {
		putsNone(t, l, right, api.ErrState)
		putsNone(t, l, "", api.ErrState)
		syncsNone(t, l)
	}
}

// goesOn checks that each step is taken; there is room for a frame.
func goesOn(t *testing.T, l *log.Log, right string) {
	t.Helper()
	puts(t, l, right)
	syncs(t, l)
	syncs(t, l)
}

// longOf a record of a frame, how many bytes it has.
func longOf(t *testing.T, s setting, b string) int {
	t.Helper()
	l := made(t, s)
	puts(t, l, b)
	return l.Bytes()
}

// filled is a Log with such frames, none of them safe.
func filled(t *testing.T, s setting, frames ...string) *log.Log {
	t.Helper()
	l := made(t, s)
	puts(t, l, frames...)
	return l
}

// endsOf the records of frames: of none 0, then behind each.
func endsOf(t *testing.T, s setting, frames []string) []int {
	t.Helper()
	ends := []int{0}
	l := made(t, s)
	for _, b := range frames {
		puts(t, l, b)
		ends = append(ends, l.Bytes())
	}
	return ends
}

// last of the ends that is not beyond so many bytes: how many whole records these have, and where they end.
func last(ends []int, bytes int) (int, int) {
	many := 0
	for many+1 < len(ends) && ends[many+1] <= bytes {
		many++
	}
	return many, ends[many]
}
