package log_test

import "testing"

func TestAllThatIsThereIsSafe(t *testing.T) {
	for _, s := range settings() {
		l := made(t, s)
		syncs(t, l)
		has(t, l, 0, 0)
		for i, b := range framesOf(t, s, most) {
			was := l.Bytes()
			puts(t, l, b)
			if i%3 == 1 {
				continue
			}
			if i%3 == 0 && l.Safe() != was {
				t.Errorf("%d of %d are safe", l.Safe(), was)
			}
			syncs(t, l)
			syncs(t, l)
		}
	}
}

// TestNoSyncAtAll has Puts alone, by which nothing is safe.
func TestNoSyncAtAll(t *testing.T) {
	for _, s := range few() {
		frames := framesOf(t, s, most)
		l := filled(t, s, frames...)
		has(t, l, l.Bytes(), 0, frames...)
	}
}

func TestNoSyncWhereItHasStopped(t *testing.T) {
	for _, s := range few() {
		frames := framesOf(t, s, 3)
		l := filled(t, s, frames[0])
		syncs(t, l)
		puts(t, l, frames[1])
		l.Fail(0)
		putsHalf(t, l, frames[2], longOf(t, s, frames[2]))
		for range 30 {
			syncsNone(t, l)
		}
		ends := endsOf(t, s, frames)
		has(t, l, ends[2]+(ends[3]-ends[2])/2, ends[1], frames[:2]...)
	}
}
