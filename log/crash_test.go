package log_test

import (
	"math"
	"slices"
	"testing"

	"pulsehorn/api"
	"pulsehorn/log"
)

// keeps are how many bytes a Crash may keep: each number about those that there are, and some far off.
func keeps(bytes int) []int {
	l := []int{math.MinInt, math.MinInt + 1, -1 << 32, math.MaxInt, math.MaxInt - 1, 1 << 32, 1000000}
	for keep := -3; keep <= bytes+3; keep++ {
		l = append(l, keep)
	}
	return l
}

// partly is a Log with such frames, the first ones of them safe.
func partly(t *testing.T, s setting, frames []string, safe int) *log.Log {
	t.Helper()
	l := filled(t, s, frames[:safe]...)
	syncs(t, l)
	puts(t, l, frames[safe:]...)
	return l
}

// left checks what is left behind a Crash that kept so many bytes, that it is safe, and that it goes on.
func left(t *testing.T, l *log.Log, frames []string, ends []int, safe, keep int) {
	t.Helper()
	bytes := ends[safe]
	if keep > 0 {
		bytes += min(keep, ends[len(ends)-1]-bytes)
	}
	many, end := last(ends, bytes)
	has(t, l, end, end, frames[:many]...)
}

func TestSomeCrashes(t *testing.T) {
	s := setting{[]int{2}, 5}
	l := made(t, s)
	l.Crash(0)
	has(t, l, 0, 0)
	puts(t, l, "\x5b\x00")
	l.Crash(0)
	has(t, l, 0, 0)
	puts(t, l, "\x5b\x00")
	first := l.Bytes()
	syncs(t, l)
	puts(t, l, "\x00")
	l.Crash(0)
	has(t, l, first, first, "\x5b\x00")
	puts(t, l, "\x00")
	both := l.Bytes()
	l.Crash(both - first)
	has(t, l, both, both, "\x5b\x00", "\x00")
	l.Crash(-1)
	has(t, l, both, both, "\x5b\x00", "\x00")
}

// TestNoFrameCrashed has a Log with nothing, whatever is kept of it.
func TestNoFrameCrashed(t *testing.T) {
	for _, s := range settings() {
		for _, keep := range keeps(2) {
			l := made(t, s)
			l.Crash(keep)
			has(t, l, 0, 0)
			goesOn(t, l, framesOf(t, s, 1)[0])
		}
	}
}

// TestCutOffAtEachByte has each number of frames that are safe, and each number of bytes of the others.
func TestCutOffAtEachByte(t *testing.T) {
	for _, s := range few() {
		frames := framesOf(t, s, 5)
		ends := endsOf(t, s, frames)
		for safe := range len(frames) + 1 {
			for _, keep := range keeps(ends[len(frames)] - ends[safe]) {
				l := partly(t, s, frames, safe)
				l.Crash(keep)
				left(t, l, frames, ends, safe, keep)
				goesOn(t, l, frames[0])
			}
		}
	}
}

// TestMostFramesCrashed has as many as there may be, at each end of a record, one byte less, and one more.
func TestMostFramesCrashed(t *testing.T) {
	for i, s := range few() {
		if i%2 == 0 {
			continue
		}
		frames := framesOf(t, s, most)
		ends := endsOf(t, s, frames)
		for _, safe := range []int{0, 1, most - 1, most} {
			for _, end := range ends {
				for _, keep := range []int{end - ends[safe] - 1, end - ends[safe], end - ends[safe] + 1} {
					l := partly(t, s, frames, safe)
					l.Crash(keep)
					left(t, l, frames, ends, safe, keep)
				}
			}
		}
	}
}

// TestRoomBehindACrash has a Log that was full: as many frames as were lost find room, and no more.
func TestRoomBehindACrash(t *testing.T) {
	for _, s := range few() {
		frames := framesOf(t, s, most)
		for _, safe := range []int{0, 1, 10, most - 1, most} {
			l := partly(t, s, frames, safe)
			putsNone(t, l, frames[0], api.ErrFull)
			l.Crash(1)
			has(t, l, l.Bytes(), l.Bytes(), frames[:safe]...)
			others := slices.Clone(frames[safe:])
			slices.Reverse(others)
			puts(t, l, others...)
			has(t, l, l.Bytes(), l.Safe(), slices.Concat(frames[:safe], others)...)
			putsNone(t, l, frames[0], api.ErrFull)
		}
	}
}

// TestHalfARecordIsGone has a Put that stopped, and each number of bytes of it, and of the frames ahead that are not safe.
func TestHalfARecordIsGone(t *testing.T) {
	for _, s := range few() {
		frames := framesOf(t, s, 4)
		ends := endsOf(t, s, frames)
		for safe := range 4 {
			for _, keep := range keeps(ends[4] - ends[safe]) {
				l := partly(t, s, frames[:3], safe)
				l.Fail(0)
				putsHalf(t, l, frames[3], ends[4]-ends[3])
				hasStopped(t, l, frames[0])
				l.Crash(keep)
				left(t, l, frames[:3], ends[:4], safe, keep)
				goesOn(t, l, frames[3])
			}
		}
	}
}

// TestCrashBehindASyncThatStopped has frames that would have been safe.
func TestCrashBehindASyncThatStopped(t *testing.T) {
	for _, s := range few() {
		frames := framesOf(t, s, 3)
		ends := endsOf(t, s, frames)
		for safe := range 4 {
			for _, keep := range keeps(ends[3] - ends[safe]) {
				l := partly(t, s, frames, safe)
				l.Fail(0)
				syncsNone(t, l)
				hasStopped(t, l, frames[0])
				l.Crash(keep)
				left(t, l, frames, ends, safe, keep)
				goesOn(t, l, frames[2])
			}
		}
	}
}

// TestWhatFailSaidIsForgotten has each number of steps that were left at the Crash.
func TestWhatFailSaidIsForgotten(t *testing.T) {
	for _, s := range few() {
		frames := framesOf(t, s, most)
		for _, n := range []int{-1, 0, 1, 2, 3, 10, math.MinInt, math.MaxInt} {
			for _, keep := range []int{-1, 0, 1, math.MaxInt} {
				l := made(t, s)
				l.Fail(n)
				l.Crash(keep)
				for _, b := range frames {
					puts(t, l, b)
					syncs(t, l)
				}
			}
		}
		for n := range 4 {
			l := made(t, s)
			l.Fail(n)
			puts(t, l, frames[:n]...)
			l.Crash(0)
			puts(t, l, frames...)
			syncs(t, l)
		}
	}
}

// TestFailBehindACrash has a new one, which holds as the one ahead did.
func TestFailBehindACrash(t *testing.T) {
	for _, s := range few() {
		frames := framesOf(t, s, most)
		for first := range 3 {
			for second := range 3 {
				l := made(t, s)
				l.Fail(first)
				stopsBehind(t, l, s, first, frames)
				l.Crash(-1)
				has(t, l, 0, 0)
				l.Fail(second)
				stopsBehind(t, l, s, second, frames)
				l.Crash(math.MaxInt)
				has(t, l, l.Bytes(), l.Bytes(), frames[:second]...)
				goesOn(t, l, frames[5])
			}
		}
	}
}

// TestACrashIsNoStep has Crashes, All, Bytes and Safe between Fail and the step that stops.
func TestACrashIsNoStep(t *testing.T) {
	for _, s := range few() {
		frames := framesOf(t, s, 4)
		l := made(t, s)
		l.Crash(0)
		l.Fail(2)
		for range 5 {
			has(t, l, 0, 0)
		}
		puts(t, l, frames[:2]...)
		stepStops(t, l, s, frames[2])
	}
}

// TestCrashBehindACrash changes nothing, whatever is kept: what is left is safe.
func TestCrashBehindACrash(t *testing.T) {
	for _, s := range few() {
		frames := framesOf(t, s, 4)
		ends := endsOf(t, s, frames)
		for safe := range 5 {
			for _, keep := range keeps(ends[4] - ends[safe]) {
				l := partly(t, s, frames, safe)
				l.Crash(keep)
				for _, again := range []int{keep, 0, -1, 1, math.MaxInt, math.MinInt} {
					l.Crash(again)
					left(t, l, frames, ends, safe, keep)
				}
				goesOn(t, l, frames[0])
			}
		}
	}
}

// TestFramesBehindACrash has others in the place of those that were lost, and a Crash again.
func TestFramesBehindACrash(t *testing.T) {
	for _, s := range few() {
		frames := framesOf(t, s, 8)
		for _, keep := range keeps(longOf(t, s, frames[1])) {
			l := partly(t, s, frames[:3], 1)
			l.Crash(keep)
			now := slices.Clone(l.All())
			puts(t, l, frames[3], frames[4])
			syncs(t, l)
			puts(t, l, frames[5])
			l.Crash(0)
			now = append(now, frames[3], frames[4])
			has(t, l, l.Bytes(), l.Bytes(), now...)
			puts(t, l, frames[6], frames[7])
			l.Crash(math.MaxInt)
			has(t, l, l.Bytes(), l.Bytes(), append(now, frames[6], frames[7])...)
		}
	}
}
