package log_test

import (
	"math"
	"testing"

	"pulsehorn/api"
	"pulsehorn/log"
)

func TestTheNextStepStops(t *testing.T) {
	for _, s := range settings() {
		frames := framesOf(t, s, most)
		for _, many := range []int{0, 1, most - 1} {
			l := filled(t, s, frames[:many]...)
			l.Fail(0)
			putsHalf(t, l, frames[many], longOf(t, s, frames[many]))
			hasStopped(t, l, frames[0])
			q := filled(t, s, frames[:many]...)
			q.Fail(0)
			syncsNone(t, q)
			hasStopped(t, q, frames[0])
		}
	}
}

// step of a Log: a Put of a frame, or a Sync, where there is none.
func step(t *testing.T, l *log.Log, b string) {
	t.Helper()
	if b == "" {
		syncs(t, l)
	} else {
		puts(t, l, b)
	}
}

// stepStops checks that a step is the one that stops.
func stepStops(t *testing.T, l *log.Log, s setting, b string) {
	t.Helper()
	if b == "" {
		syncsNone(t, l)
	} else {
		putsHalf(t, l, b, longOf(t, s, b))
	}
}

// stepsOf a setting: Puts alone, Syncs alone, and both.
func stepsOf(t *testing.T, s setting) [][]string {
	t.Helper()
	f := framesOf(t, s, 8)
	return [][]string{
		f, make([]string, 8), {f[0], "", f[1], "", f[2], "", f[3], ""}, {"", f[0], "", f[1], "", f[2], "", f[3]},
		{f[0], f[1], "", "", f[2], f[3], "", ""}, {"", "", f[0], f[1], f[2], f[3], "", f[4]},
	}
}

// TestSoManyStepsFromNow has each number of steps, which are Puts, and Syncs.
func TestSoManyStepsFromNow(t *testing.T) {
	for _, s := range few() {
		for _, steps := range stepsOf(t, s) {
			for n := range steps {
				l := made(t, s)
				l.Fail(n)
				has(t, l, 0, 0)
				for _, b := range steps[:n] {
					step(t, l, b)
				}
				stepStops(t, l, s, steps[n])
				hasStopped(t, l, framesOf(t, s, 1)[0])
			}
		}
	}
}

// TestItIsFromNowOn has steps ahead of Fail, which do not count.
func TestItIsFromNowOn(t *testing.T) {
	for _, s := range few() {
		for _, steps := range stepsOf(t, s) {
			for ahead := range steps {
				for n := range len(steps) - ahead {
					l := made(t, s)
					for _, b := range steps[:ahead] {
						step(t, l, b)
					}
					l.Fail(n)
					for _, b := range steps[ahead : ahead+n] {
						step(t, l, b)
					}
					stepStops(t, l, s, steps[ahead+n])
				}
			}
		}
	}
}

// TestManySteps has more of them than there may be frames.
func TestManySteps(t *testing.T) {
	s := setting{[]int{2}, 5}
	for _, n := range []int{19, 20, 21, 100, 255, 256, 257, 1000} {
		l := made(t, s)
		l.Fail(n)
		for range n {
			if err := l.Sync(); err != nil {
				t.Fatalf("Fail of %d: %v", n, err)
			}
		}
		syncsNone(t, l)
		hasStopped(t, l, "\x00")
	}
}

// TestNever has numbers below 0, and some that no one comes to.
func TestNever(t *testing.T) {
	for _, s := range few() {
		frames := framesOf(t, s, most)
		for _, n := range []int{
			-1, -2, -3, -1 << 31, -1 << 32, math.MinInt, math.MinInt + 1, math.MaxInt, math.MaxInt - 1, 1 << 31, 1 << 32, 1 << 40,
		} {
			l := made(t, s)
			l.Fail(n)
			for _, b := range frames {
				puts(t, l, b)
				syncs(t, l)
				syncs(t, l)
			}
		}
	}
	l := made(t, setting{[]int{2}, 5})
	l.Fail(-1)
	for range 5000 {
		if err := l.Sync(); err != nil {
			t.Fatal(err)
		}
	}
}

// TestNeverWithoutIt has a Log of which nobody said that it stops.
func TestNeverWithoutIt(t *testing.T) {
	for _, s := range few() {
		l := made(t, s)
		for _, b := range framesOf(t, s, most) {
			puts(t, l, b)
			syncs(t, l)
		}
		for range 500 {
			if err := l.Sync(); err != nil {
				t.Fatal(err)
			}
		}
	}
}

// TestARefusedPutIsNoStep has wrong bytes, and frames that there is no room for, ahead of the step that stops.
func TestARefusedPutIsNoStep(t *testing.T) {
	for _, s := range few() {
		frames := framesOf(t, s, most+1)
		for n := range 4 {
			l := made(t, s)
			l.Fail(n)
			for _, b := range frames[:n] {
				for _, wrong := range wrongFrames(b) {
					putsNone(t, l, wrong, api.ErrSyntax)
				}
				puts(t, l, b)
			}
			putsNone(t, l, "", api.ErrSyntax)
			putsHalf(t, l, frames[n], longOf(t, s, frames[n]))
			q := filled(t, s, frames[:most]...)
			q.Fail(n)
			for range n {
				putsNone(t, q, frames[most], api.ErrFull)
				putsNone(t, q, "", api.ErrFull)
				syncs(t, q)
			}
			putsNone(t, q, frames[most], api.ErrFull)
			syncsNone(t, q)
			hasStopped(t, q, frames[most])
		}
	}
}

// TestANewOneTakesThePlace has one that is sooner, one that is later, the same again, and one below 0.
func TestANewOneTakesThePlace(t *testing.T) {
	numbers := []int{0, 1, 2, 5, -1, -2, math.MinInt, math.MaxInt}
	for _, s := range few() {
		frames := framesOf(t, s, most)
		for _, first := range numbers {
			for _, second := range numbers {
				for between := range 3 {
					if first >= 0 && first < between {
						continue
					}
					l := made(t, s)
					l.Fail(first)
					for range between {
						syncs(t, l)
					}
					l.Fail(second)
					stopsBehind(t, l, s, second, frames)
				}
			}
		}
	}
}

// stopsBehind checks that so many frames are put, and the next is not; below 0 all are.
func stopsBehind(t *testing.T, l *log.Log, s setting, n int, frames []string) {
	t.Helper()
	if n < 0 || n >= len(frames) {
		puts(t, l, frames...)
		syncs(t, l)
		return
	}
	puts(t, l, frames[:n]...)
	putsHalf(t, l, frames[n], longOf(t, s, frames[n]))
	hasStopped(t, l, frames[0])
}

// TestWhatHasStoppedStays has a new Fail behind the step that stopped.
func TestWhatHasStoppedStays(t *testing.T) {
	for _, s := range few() {
		frames := framesOf(t, s, 2)
		for _, n := range []int{-1, 0, 1, 2, 100, math.MinInt, math.MaxInt} {
			l := filled(t, s, frames[0])
			l.Fail(0)
			putsHalf(t, l, frames[1], longOf(t, s, frames[1]))
			l.Fail(n)
			hasStopped(t, l, frames[1])
			l.Crash(0)
			has(t, l, 0, 0)
			goesOn(t, l, frames[1])
		}
	}
}

// TestHalfOfARecord has records of each length that there is, even ones and odd ones.
func TestHalfOfARecord(t *testing.T) {
	seen := map[int]bool{}
	for _, s := range settings() {
		for _, b := range framesOf(t, s, 8) {
			long := longOf(t, s, b)
			if seen[long] {
				continue
			}
			seen[long] = true
			l := made(t, s)
			l.Fail(0)
			putsHalf(t, l, b, long)
			has(t, l, long/2, 0)
			l.Crash(math.MaxInt)
			has(t, l, 0, 0)
			goesOn(t, l, b)
		}
	}
	if len(seen) < 12 {
		t.Errorf("only records of %d lengths", len(seen))
	}
}
