package log_test

import (
	"math"
	"slices"
	"testing"

	"pulsehorn/api"
	"pulsehorn/log"
)

// hiding puts numbers behind a list's length that no call may read or write.
func hiding(l []int) []int {
	return append(slices.Clone(l), 77, math.MinInt, -77)[:len(l)]
}

// whole is a list with what stands behind it, in memory of its own.
func whole(l []int) []int {
	return slices.Clone(l[:cap(l)])
}

// spoil writes over all memory of a list.
func spoil(l []string) {
	for i := range l[:cap(l)] {
		l[:cap(l)][i] = "spoilt"
	}
}

// allCalls are made, once each.
func allCalls(l *log.Log, b string) {
	l.Put(b)
	l.Sync()
	l.Put(b)
	l.Fail(0)
	l.Put(b)
	l.All()
	l.Crash(1)
	l.Bytes()
	l.Safe()
}

func TestSizesAreLeftAlone(t *testing.T) {
	look := func(given []int, bits int, b string) {
		sizes := hiding(given)
		kept := whole(sizes)
		if l, err := log.New(sizes, bits); err == nil {
			allCalls(l, b)
		}
		if !slices.Equal(whole(sizes), kept) {
			t.Errorf("%v became %v", kept, whole(sizes))
		}
	}
	for _, s := range settings() {
		for _, b := range framesOf(t, s, 3) {
			look(s.sizes, s.bits, b)
		}
	}
	for _, sizes := range oddSizes() {
		look(sizes, 8, "")
	}
	for _, c := range badSizes() {
		for _, bits := range []int{-1, 8, 401} {
			look(c.sizes, bits, "")
		}
	}
}

func TestWhatLiesBehindIsNotRead(t *testing.T) {
	for _, s := range settings() {
		frames := framesOf(t, s, 4)
		l := made(t, setting{hiding(s.sizes), s.bits})
		puts(t, l, frames...)
		has(t, l, l.Bytes(), 0, frames...)
	}
	refuses(t, hiding(nil), 8, api.ErrNone)
	refuses(t, hiding([]int{1}), 8, api.ErrShape)
}

// TestSizesAreNotKept writes over them behind New.
func TestSizesAreNotKept(t *testing.T) {
	for _, s := range settings() {
		frames := framesOf(t, s, 4)
		for _, other := range []int{0, 1, 7, math.MinInt} {
			sizes := hiding(s.sizes)
			l := made(t, setting{sizes, s.bits})
			for i := range sizes[:cap(sizes)] {
				sizes[:cap(sizes)][i] = other
			}
			puts(t, l, frames[:2]...)
			putsNone(t, l, "", api.ErrSyntax)
			syncs(t, l)
			puts(t, l, frames[2])
			l.Crash(0)
			puts(t, l, frames[3])
			has(t, l, l.Bytes(), l.Safe(), frames[0], frames[1], frames[3])
			if slices.ContainsFunc(sizes[:cap(sizes)], func(n int) bool { return n != other }) {
				t.Errorf("%v were written into: %v", s.sizes, sizes)
			}
		}
	}
}

// TestWhatIsToldIsFresh writes over all that All told, with what stands behind it, behind each call.
func TestWhatIsToldIsFresh(t *testing.T) {
	for _, s := range settings() {
		frames := framesOf(t, s, most)
		l := made(t, s)
		for i, b := range frames {
			spoil(l.All())
			puts(t, l, b)
			spoil(l.All())
			has(t, l, l.Bytes(), l.Safe(), frames[:i+1]...)
			if i == 7 {
				syncs(t, l)
			}
		}
		safe := l.Safe()
		l.Crash(-1)
		spoil(l.All())
		has(t, l, safe, safe, frames[:8]...)
		l.Fail(0)
		putsHalf(t, l, frames[8], longOf(t, s, frames[8]))
		spoil(l.All())
		l.Crash(1000)
		has(t, l, safe, safe, frames[:8]...)
	}
}

// TestWhatWasToldStays keeps all that All told, while the Log goes on, crashes, and has other frames.
func TestWhatWasToldStays(t *testing.T) {
	for _, s := range settings() {
		frames := framesOf(t, s, most)
		l := made(t, s)
		var told, kept [][]string
		keep := func() {
			told = append(told, l.All())
			// Copied byte by byte, because a text could lie in memory of the Log.
			var copies []string
			for _, b := range l.All() {
				copies = append(copies, string([]byte(b)))
			}
			kept = append(kept, copies)
		}
		for _, b := range frames {
			puts(t, l, b)
			keep()
		}
		l.Crash(1)
		for _, b := range slices.Backward(frames) {
			puts(t, l, b)
			keep()
		}
		spoil(told[3])
		for i := range told {
			if i != 3 && !slices.Equal(told[i], kept[i]) {
				t.Errorf("%q became %q", kept[i], told[i])
			}
		}
	}
}

// TestTwoLogs has calls on one, of which the other tells nothing.
func TestTwoLogs(t *testing.T) {
	for _, s := range settings() {
		frames := framesOf(t, s, 6)
		sizes := slices.Clone(s.sizes)
		l, q := made(t, setting{sizes, s.bits}), made(t, setting{sizes, s.bits})
		puts(t, l, frames[0])
		has(t, q, 0, 0)
		puts(t, q, frames[1])
		first, second := l.Bytes(), q.Bytes()
		has(t, l, first, 0, frames[0])
		syncs(t, l)
		has(t, q, second, 0, frames[1])
		l.Fail(0)
		puts(t, q, frames[2])
		syncs(t, q)
		third := q.Bytes()
		syncsNone(t, l)
		hasStopped(t, l, frames[0])
		puts(t, q, frames[3])
		l.Crash(0)
		has(t, q, q.Bytes(), third, frames[1:4]...)
		puts(t, l, frames[4])
		q.Crash(0)
		has(t, q, third, third, frames[1:3]...)
		has(t, l, l.Bytes(), first, frames[0], frames[4])
	}
}
