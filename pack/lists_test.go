package pack_test

import (
	"math"
	"slices"
	"testing"

	"pulsehorn/api"
	"pulsehorn/pack"
)

// hiding puts numbers behind a list's length that no call may read or write.
func hiding(l []int) []int {
	return append(slices.Clone(l), 77, math.MinInt, -77)[:len(l)]
}

// hidingParts puts Parts behind a frame's length, and numbers behind its pulses' lengths.
func hidingParts(l []api.Part) []api.Part {
	all := append(slices.Clone(l), part(-7, 99), part(53, math.MinInt))
	for i := range all {
		all[i].Pulses = hiding(all[i].Pulses)
	}
	return all[:len(l)]
}

// whole is a list with what stands behind it, in memory of its own.
func whole(l []int) []int {
	return slices.Clone(l[:cap(l)])
}

// wholeParts is a frame with what stands behind it, and behind its pulses.
func wholeParts(l []api.Part) []api.Part {
	all := slices.Clone(l[:cap(l)])
	for i := range all {
		all[i].Pulses = whole(all[i].Pulses)
	}
	return all
}

// leavesAlone hands lists to every call, and looks at them behind it.
func leavesAlone(t *testing.T, l []api.Part, b string, sizes []int, bits int) {
	t.Helper()
	l, sizes = hidingParts(l), hiding(sizes)
	kept, keptSizes := wholeParts(l), whole(sizes)
	for name, call := range map[string]func(){
		"Pack":   func() { pack.Pack(l, sizes, bits) },
		"Unpack": func() { pack.Unpack(b, sizes, bits) },
		"Long":   func() { pack.Long(sizes, bits) },
	} {
		call()
		if !alike(wholeParts(l), kept) || !slices.Equal(whole(sizes), keptSizes) {
			t.Errorf("by %s %v and %v became %v and %v", name, kept, keptSizes, wholeParts(l), whole(sizes))
		}
	}
}

func TestListsAreLeftAlone(t *testing.T) {
	eachFrame(t, func(l []api.Part, sizes []int, bits int) { leavesAlone(t, l, told(l), sizes, bits) })
	for _, l := range [][]api.Part{
		nil, parts(part(22, 4, 4)), parts(part(53, 4, 4)), parts(part(22, 8, 8)), parts(part(22, 9, 0)),
		parts(part(22, 8)), slices.Repeat(parts(part(22, 4, 4)), 9),
	} {
		for _, b := range []string{"", "\x00", "\xff", octets(0x5B, 0x00), octets(0x5B, 0x01), octets(0x5B, 0x00, 0x00)} {
			for _, c := range badSizes() {
				leavesAlone(t, l, b, c.sizes, 8)
			}
			for _, bits := range []int{-1, 0, 5, 8, 400, 401} {
				leavesAlone(t, l, b, []int{2}, bits)
				leavesAlone(t, l, b, []int{1, 2}, bits)
			}
		}
	}
}

func TestWhatLiesBehindIsNotRead(t *testing.T) {
	eachFrame(t, func(l []api.Part, sizes []int, bits int) {
		packs(t, hidingParts(l), hiding(sizes), bits, told(l))
		reads(t, told(l), hiding(sizes), bits, l)
	})
	long(t, hiding([]int{2}), 5, 2)
	packsNone(t, hidingParts(nil), hiding(nil), 5, api.ErrNone)
	packsNone(t, hidingParts(nil), hiding([]int{1}), 5, api.ErrShape)
	readsNone(t, "", hiding(nil), 5, api.ErrNone)
	notLong(t, hiding(nil), 5, api.ErrNone)
}

func TestAnEmptyListAndNilAreTheSame(t *testing.T) {
	packsNone(t, nil, nil, 5, api.ErrNone)
	packsNone(t, []api.Part{}, []int{}, 5, api.ErrNone)
	packsNone(t, nil, []int{1}, 5, api.ErrShape)
	packsNone(t, []api.Part{}, []int{1}, 5, api.ErrShape)
	packsNone(t, parts(api.Part{}), []int{1}, 5, api.ErrShape)
	packsNone(t, parts(api.Part{Pulses: []int{}}), []int{1}, 5, api.ErrShape)
	readsNone(t, "\x00", nil, 5, api.ErrNone)
	readsNone(t, "\x00", []int{}, 5, api.ErrNone)
	notLong(t, nil, 5, api.ErrNone)
	notLong(t, []int{}, 5, api.ErrNone)
}

// spoil writes over all memory of a list.
func spoil(l []int) {
	for i := range l[:cap(l)] {
		l[:cap(l)][i] = 99
	}
}

// spoilParts writes over all memory of a frame.
func spoilParts(l []api.Part) {
	for i := range l[:cap(l)] {
		spoil(l[:cap(l)][i].Pulses)
		l[:cap(l)][i] = part(-9)
	}
}

func TestFramesAreFreshEachTime(t *testing.T) {
	eachFrame(t, func(l []api.Part, sizes []int, bits int) {
		b, given := told(l), slices.Clone(sizes)
		first, _ := pack.Unpack(b, given, bits)
		second, _ := pack.Unpack(b, given, bits)
		spoilParts(first)
		if !slices.Equal(given, sizes) {
			t.Errorf("%v became %v with the frame", sizes, given)
		}
		spoil(given)
		if !alike(second, l) {
			t.Errorf("Unpack of %v, %v, %d: %v became %v", []byte(b), sizes, bits, l, second)
		}
		reads(t, b, sizes, bits, l)
	})
}

// TestNoTwoListsOfPulsesShare writes over one list of pulses, with what stands behind it, and looks at the others.
func TestNoTwoListsOfPulsesShare(t *testing.T) {
	eachHandFrame(t, func(l []api.Part, sizes []int, bits int) {
		for at := range sizes {
			got, err := pack.Unpack(told(l), sizes, bits)
			if err != nil {
				t.Errorf("Unpack of %v, %v, %d: %v", []byte(told(l)), sizes, bits, err)
				return
			}
			spoil(got[at].Pulses)
			if others := with(l, at, got[at]); !alike(got, others) {
				t.Errorf("Unpack of %v, %v, %d: %v became %v with the pulses at %d", []byte(told(l)), sizes, bits, l, got, at)
			}
		}
	})
}

func TestBytesStayWhenTheFrameIsWrittenOver(t *testing.T) {
	eachHandFrame(t, func(l []api.Part, sizes []int, bits int) {
		given, givenSizes := copied(l), slices.Clone(sizes)
		b, _ := pack.Pack(given, givenSizes, bits)
		spoilParts(given)
		spoil(givenSizes)
		if b != told(l) {
			t.Errorf("Pack of %v, %v, %d became %v", l, sizes, bits, []byte(b))
		}
		packs(t, l, sizes, bits, b)
	})
}

// TestNothingIsKept has wrong calls between right ones.
func TestNothingIsKept(t *testing.T) {
	l, sizes, b := parts(part(22, 4, 4)), []int{2}, octets(0x5B, 0x00)
	for range 3 {
		both(t, l, sizes, 5, b)
		packsNone(t, l, sizes, 4, api.ErrShape)
		readsNone(t, b, sizes, 1, api.ErrSyntax)
		readsNone(t, b+b, sizes, 5, api.ErrSyntax)
		notLong(t, sizes, 395, api.ErrFull)
		long(t, sizes, 394, 50)
		both(t, l, sizes, 5, b)
	}
}
