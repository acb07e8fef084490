package log_test

import (
	"math"
	"testing"

	"pulsehorn/api"
	"pulsehorn/log"
	"pulsehorn/plain"
)

// model is what a Log is by the words of the chapter: its frames with the ends of their records, and how many bytes there are.
type model struct {
	frames      []string
	ends        []int
	bytes, safe int
	left        int // below 0: it never stops
	stopped     bool
}

func newModel() *model {
	return &model{ends: []int{0}, left: -1}
}

// step tells whether this one goes well.
func (m *model) step() bool {
	if m.left == 0 {
		m.stopped = true
	}
	if m.left > 0 {
		m.left--
	}
	return !m.stopped
}

// put a frame with a record of such a length; of a wrong one that is 0.
func (m *model) put(b string, long int) api.Errno {
	switch {
	case m.stopped:
		return api.ErrState
	case len(m.frames) == most:
		return api.ErrFull
	case long == 0:
		return api.ErrSyntax
	case !m.step():
		m.bytes += long / 2
		return api.ErrState
	}
	m.bytes += long
	m.frames, m.ends = append(m.frames, b), append(m.ends, m.bytes)
	return api.OK
}

func (m *model) sync() api.Errno {
	if m.stopped || !m.step() {
		return api.ErrState
	}
	m.safe = m.bytes
	return api.OK
}

func (m *model) crash(keep int) {
	bytes := m.safe
	for keep > 0 && bytes < m.bytes {
		bytes, keep = bytes+1, keep-1
	}
	many, end := last(m.ends, bytes)
	m.frames, m.ends = m.frames[:many:many], m.ends[:many+1:many+1]
	m.bytes, m.safe, m.left, m.stopped = end, end, -1, false
}

// walker has Logs of one setting, what each is by the words, and calls without a rule.
type walker struct {
	logs   []*log.Log
	models []*model
	frames []string
	longs  []int
	told   map[api.Errno]int
}

// put takes one of the frames, or a wrong one.
func (w *walker) put(t *testing.T, at, n int) {
	t.Helper()
	b, long := w.frames[n%len(w.frames)], w.longs[n%len(w.frames)]
	if n%7 == 0 {
		wrong := wrongFrames(b)
		b, long = wrong[n%len(wrong)], 0
	}
	w.tell(t, w.logs[at].Put(b), w.models[at].put(b, long))
}

func (w *walker) tell(t *testing.T, err error, want api.Errno) {
	t.Helper()
	if plain.Told(err) != want {
		t.Fatalf("%v, want %v", err, want)
	}
	w.told[want]++
}

// call one of the calls.
func (w *walker) call(t *testing.T, at, which, n int) {
	t.Helper()
	l, m := w.logs[at], w.models[at]
	switch {
	case which < 60:
		w.put(t, at, n)
	case which < 80:
		w.tell(t, l.Sync(), m.sync())
	case which < 92:
		n = []int{n%12 - 2, n % 4, -n, math.MinInt, math.MaxInt}[n%5]
		l.Fail(n)
		// One behind a stop is told by nothing, because a Crash forgets it.
		m.left = n
	default:
		n = []int{n % 40, n % 9, n % 120, -n, math.MinInt, math.MaxInt}[n%6]
		l.Crash(n)
		m.crash(n)
	}
}

// TestCallsWithoutARule holds two Logs against the words, behind each call on one of them.
func TestCallsWithoutARule(t *testing.T) {
	told := map[api.Errno]int{}
	for seed, s := range settings() {
		w := walker{frames: framesOf(t, s, 30), told: told}
		for _, b := range w.frames {
			w.longs = append(w.longs, longOf(t, s, b))
		}
		for range 2 {
			w.logs, w.models = append(w.logs, made(t, s)), append(w.models, newModel())
		}
		numbers := some(0, 9999, 1200, uint32(seed))
		for i := 0; i < len(numbers); i += 3 {
			// Few Crashes in some walks, so that a Log fills.
			which := numbers[i] % (93 + 7*(seed%2))
			w.call(t, numbers[i+1]%2, which, numbers[i+2])
			for at, m := range w.models {
				has(t, w.logs[at], m.bytes, m.safe, m.frames...)
			}
			if t.Failed() {
				t.Fatalf("%v, call %d", s, i/3)
			}
		}
	}
	for _, e := range []api.Errno{api.OK, api.ErrState, api.ErrFull, api.ErrSyntax} {
		if told[e] < 500 {
			t.Errorf("only %d were %v", told[e], e)
		}
	}
}
