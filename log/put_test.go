package log_test

import (
	"slices"
	"strings"
	"testing"

	"pulsehorn/api"
	"pulsehorn/pack"
	"pulsehorn/plain"
)

func TestSomeFramesPut(t *testing.T) {
	s := setting{[]int{2}, 5}
	l := made(t, s)
	puts(t, l, "\x5b\x00", "\x00", "\x5b\x00", packed(t, parts(part(41, 7, -1)), s))
	if got := l.All(); len(got) != 4 || got[0] != "\x5b\x00" || got[1] != "\x00" || got[2] != "\x5b\x00" {
		t.Errorf("All: %q", got)
	}
	q := made(t, setting{[]int{6}, 12})
	puts(t, q, string([]byte{188, 18, 192}), string([]byte{186, 61, 64}))
	putsNone(t, q, string([]byte{166, 18, 192, 0}), api.ErrSyntax)
	puts(t, q, string([]byte{101, 24, 64}))
	// Too loud to be decoded, but read, and so kept.
	puts(t, l, packed(t, parts(part(52, 8, 0)), s))
}

// TestFramesAreKeptInTheirOrder has as many as there may be, and one more, in each setting, safe or not.
func TestFramesAreKeptInTheirOrder(t *testing.T) {
	for i, s := range settings() {
		frames := framesOf(t, s, most+1)
		l := made(t, s)
		for many, b := range frames[:most] {
			puts(t, l, b)
			has(t, l, l.Bytes(), l.Safe(), frames[:many+1]...)
			if many%(i+1) == i {
				syncs(t, l)
			}
		}
		putsNone(t, l, frames[most], api.ErrFull)
		putsNone(t, l, frames[0], api.ErrFull)
		syncs(t, l)
		putsNone(t, l, frames[most], api.ErrFull)
		has(t, l, l.Bytes(), l.Bytes(), frames[:most]...)
	}
}

// TestTheSameFrameAgain is a frame of its own each time.
func TestTheSameFrameAgain(t *testing.T) {
	for _, s := range few() {
		b := framesOf(t, s, 1)[0]
		l := filled(t, s, slices.Repeat([]string{b}, most)...)
		has(t, l, most*longOf(t, s, b), 0, slices.Repeat([]string{b}, most)...)
		putsNone(t, l, b, api.ErrFull)
	}
}

// TestRecordsHaveAtLeastTheFrames looks at how many bytes there are: as many at least as the frames have, and two for each.
func TestRecordsHaveAtLeastTheFrames(t *testing.T) {
	shortest, longest := 99, 0
	for _, s := range settings() {
		frames := framesOf(t, s, most)
		l := filled(t, s, frames...)
		for _, b := range frames {
			shortest, longest = min(shortest, len(b)), max(longest, len(b))
		}
		if long := len(strings.Join(frames, "")); l.Bytes() < max(long, 2*most) {
			t.Errorf("%d bytes of frames in %d", long, l.Bytes())
		}
	}
	if shortest != 1 || longest < 16 {
		t.Errorf("frames of %d to %d bytes", shortest, longest)
	}
}

func TestNoFramesOfTheSetting(t *testing.T) {
	for _, s := range settings() {
		right := framesOf(t, s, most)
		l := made(t, s)
		for many, b := range right {
			if many <= 1 || many == most-1 {
				for _, wrong := range wrongFrames(b) {
					putsNone(t, l, wrong, api.ErrSyntax)
				}
			}
			puts(t, l, b)
		}
	}
}

// TestAnyBytesPutAsUnpackTells has frames of which one bit is another, and those of another setting.
func TestAnyBytesPutAsUnpackTells(t *testing.T) {
	right, not := 0, 0
	all := settings()
	for i, s := range all {
		texts := framesOf(t, all[(i+1)%len(all)], 6)
		for _, b := range framesOf(t, s, 3) {
			for at := range 8 * len(b) {
				other := []byte(b)
				other[at/8] ^= 1 << (at % 8)
				texts = append(texts, string(other))
			}
		}
		l := made(t, s)
		for _, b := range texts {
			if len(l.All()) == most {
				l = made(t, s)
			}
			if _, err := pack.Unpack(b, s.sizes, s.bits); err != nil {
				putsNone(t, l, b, plain.Told(err))
				not++
			} else {
				puts(t, l, b)
				right++
			}
		}
	}
	if right < 1000 || not < 1000 {
		t.Errorf("%d were put, %d were not", right, not)
	}
}

// TestTheFirstNamedIsToldByPut has a Log that is full, one that has stopped, and one that is both, and wrong bytes.
func TestTheFirstNamedIsToldByPut(t *testing.T) {
	for _, s := range few() {
		frames := framesOf(t, s, most+1)
		l := filled(t, s, frames[:most]...)
		for _, wrong := range wrongFrames(frames[0]) {
			putsNone(t, l, wrong, api.ErrFull)
		}
		l.Fail(0)
		syncsNone(t, l)
		for _, b := range append(wrongFrames(frames[0]), frames[most]) {
			putsNone(t, l, b, api.ErrState)
		}
		q := made(t, s)
		q.Fail(0)
		syncsNone(t, q)
		for _, b := range append(wrongFrames(frames[0]), frames[0]) {
			putsNone(t, q, b, api.ErrState)
		}
	}
}
