package sound_test

import (
	"math"
	"slices"
	"testing"

	"pulsehorn/api"
	"pulsehorn/plain"
	"pulsehorn/sound"
)

// repeat makes a list of one number, so many times.
func repeat(n, many int) []int {
	return slices.Repeat([]int{n}, many)
}

// faulty has lists that every call refuses, and which error it tells of them.
func faulty() map[string]struct {
	list []int
	want api.Errno
} {
	type row = struct {
		list []int
		want api.Errno
	}
	return map[string]row{
		"one too many":             {repeat(0, api.MaxSound+1), api.ErrFull},
		"far too many":             {repeat(1, 5000), api.ErrFull},
		"too many, one wrong":      {append(repeat(0, api.MaxSound), api.MaxValue+1), api.ErrFull},
		"too many, all wrong":      {repeat(math.MinInt, api.MaxSound+1), api.ErrFull},
		"one above":                {[]int{api.MaxValue + 1}, api.ErrRange},
		"one below":                {[]int{-api.MaxValue - 1}, api.ErrRange},
		"the first is wrong":       {[]int{-api.MaxValue - 1, 0, 0}, api.ErrRange},
		"the last is wrong":        {[]int{0, 0, api.MaxValue + 1}, api.ErrRange},
		"the last of all is wrong": {append(repeat(0, api.MaxSound-1), -api.MaxValue-1), api.ErrRange},
		"the greatest number":      {[]int{math.MaxInt}, api.ErrRange},
		"the least number":         {[]int{math.MinInt}, api.ErrRange},
		"the least, and one more":  {[]int{math.MinInt + 1}, api.ErrRange},
	}
}

// right has lists that no call refuses, their Energy and their Loud.
func right() map[string]struct {
	list         []int
	energy, loud int
} {
	type row = struct {
		list         []int
		energy, loud int
	}
	return map[string]row{
		"nil":              {nil, 0, 0},
		"empty":            {[]int{}, 0, 0},
		"nought":           {[]int{0}, 0, 0},
		"one":              {[]int{-7}, 49, 7},
		"some":             {[]int{3, -4, 0, 12}, 169, 19},
		"no cancelling":    {[]int{5, -5}, 50, 10},
		"greatest":         {[]int{api.MaxValue}, 1_000_000, 1000},
		"least":            {[]int{-api.MaxValue}, 1_000_000, 1000},
		"most noughts":     {repeat(0, api.MaxSound), 0, 0},
		"most, greatest":   {repeat(api.MaxValue, api.MaxSound), 32_000_000, 32_000},
		"most, least":      {repeat(-api.MaxValue, api.MaxSound), 32_000_000, 32_000},
		"most, last alone": {append(repeat(0, api.MaxSound-1), -9), 81, 9},
	}
}

func TestRightSamplesPass(t *testing.T) {
	for name, c := range right() {
		if err := sound.Check(c.list); err != nil {
			t.Errorf("%s: Check: %v", name, err)
		}
		if n, err := sound.Energy(c.list); n != c.energy || err != nil {
			t.Errorf("%s: Energy: %d %v, want %d", name, n, err, c.energy)
		}
		if n, err := sound.Loud(c.list); n != c.loud || err != nil {
			t.Errorf("%s: Loud: %d %v, want %d", name, n, err, c.loud)
		}
	}
}

func TestFaultySamplesAreTold(t *testing.T) {
	for name, c := range faulty() {
		if err := sound.Check(c.list); plain.Told(err) != c.want {
			t.Errorf("%s: Check: %v, want %v", name, err, c.want)
		}
		if n, err := sound.Energy(c.list); n != 0 || plain.Told(err) != c.want {
			t.Errorf("%s: Energy: %d %v, want %v", name, n, err, c.want)
		}
		if n, err := sound.Loud(c.list); n != 0 || plain.Told(err) != c.want {
			t.Errorf("%s: Loud: %d %v, want %v", name, n, err, c.want)
		}
	}
}

func TestEverySampleIsHeldAgainstTheBounds(t *testing.T) {
	for n := -api.MaxValue - 3; n <= api.MaxValue+3; n++ {
		want := api.OK
		if n < -1000 || n > 1000 {
			want = api.ErrRange
		}
		if err := sound.Check([]int{0, n, 0}); plain.Told(err) != want {
			t.Errorf("Check of %d: %v, want %v", n, err, want)
		}
	}
	for many := range 2 * api.MaxSound {
		want := api.OK
		if many > 32 {
			want = api.ErrFull
		}
		if err := sound.Check(repeat(1, many)); plain.Told(err) != want {
			t.Errorf("Check of %d samples: %v, want %v", many, err, want)
		}
	}
}

// refused asks both calls of two lists: nothing but that error may come out.
func refused(t *testing.T, name string, a, b []int, want api.Errno) {
	t.Helper()
	if n, err := sound.Apart(a, b); n != 0 || plain.Told(err) != want {
		t.Errorf("%s: Apart: %d %v, want %v", name, n, err, want)
	}
	if l, err := sound.Mix(a, b); len(l) != 0 || plain.Told(err) != want {
		t.Errorf("%s: Mix: %v %v, want %v", name, l, err, want)
	}
}

func TestTwo(t *testing.T) {
	const top = api.MaxValue
	for name, c := range map[string]struct {
		a, b  []int
		apart int
		mix   []int
	}{
		"nil":                    {nil, nil, 0, nil},
		"nil and empty":          {nil, []int{}, 0, nil},
		"one each":               {[]int{1}, []int{3}, 2, []int{4}},
		"the same":               {[]int{5, -6}, []int{5, -6}, 0, []int{10, -12}},
		"farthest first":         {[]int{9, 1, 2}, []int{-9, 2, 1}, 18, []int{0, 3, 3}},
		"farthest last":          {[]int{1, 2, -9}, []int{2, 1, 9}, 18, []int{3, 3, 0}},
		"a is the lesser":        {[]int{-100, 4}, []int{50, 3}, 150, []int{-50, 7}},
		"just the greatest":      {[]int{600}, []int{400}, 200, []int{top}},
		"just the least":         {[]int{-600}, []int{-400}, 200, []int{-top}},
		"one above the greatest": {[]int{601}, []int{400}, 201, []int{top}},
		"one below the least":    {[]int{-601}, []int{-400}, 201, []int{-top}},
		"one short of both":      {[]int{600, -600}, []int{399, -399}, 201, []int{top - 1, 1 - top}},
		"both greatest":          {[]int{top}, []int{top}, 0, []int{top}},
		"both least":             {[]int{-top}, []int{-top}, 0, []int{-top}},
		"greatest and least":     {[]int{top, -top}, []int{-top, top}, 2 * top, []int{0, 0}},
		"as many as may be":      {repeat(700, 32), repeat(-1, 32), 701, repeat(699, 32)},
	} {
		if n, err := sound.Apart(c.a, c.b); n != c.apart || err != nil {
			t.Errorf("%s: Apart: %d %v, want %d", name, n, err, c.apart)
		}
		if l, err := sound.Mix(c.a, c.b); !slices.Equal(l, c.mix) || err != nil {
			t.Errorf("%s: Mix: %v %v, want %v", name, l, err, c.mix)
		}
	}
}

func TestTwoNotAsMany(t *testing.T) {
	refused(t, "none and one", nil, []int{0}, api.ErrShape)
	refused(t, "one and none", []int{0}, nil, api.ErrShape)
	refused(t, "one more in a", []int{1, 2, 3}, []int{1, 2}, api.ErrShape)
	refused(t, "one more in b", []int{1, 2}, []int{1, 2, 3}, api.ErrShape)
	refused(t, "none and most", nil, repeat(0, api.MaxSound), api.ErrShape)
	refused(t, "most and one less", repeat(0, api.MaxSound), repeat(0, api.MaxSound-1), api.ErrShape)
}

func TestTwoTellTheFirstFault(t *testing.T) {
	for name, c := range faulty() {
		refused(t, name+" in a", c.list, repeat(0, min(len(c.list), api.MaxSound)), c.want)
		refused(t, name+" in b", repeat(0, min(len(c.list), api.MaxSound)), c.list, c.want)
		refused(t, name+" in a, b empty", c.list, nil, c.want)
		refused(t, name+" in b, a empty", nil, c.list, c.want)
		for _, other := range faulty() {
			refused(t, name+" in a, b wrong as well", c.list, other.list, c.want)
		}
	}
}

func TestListsAreLeftAlone(t *testing.T) {
	wholeA, wholeB := []int{800, -3, 5, 77, 5000}, []int{900, -4, -5, 78, -5000}
	keptA, keptB := slices.Clone(wholeA), slices.Clone(wholeB)
	a, b := wholeA[:3], wholeB[:3]
	sound.Check(a)
	sound.Energy(a)
	sound.Loud(a)
	sound.Apart(a, b)
	mixed, err := sound.Mix(a, b)
	if want := []int{1000, -7, 0}; !slices.Equal(mixed, want) || err != nil {
		t.Errorf("Mix: %v %v, want %v", mixed, err, want)
	}
	for i := range mixed[:cap(mixed)] {
		mixed[:cap(mixed)][i] = 1
	}
	if !slices.Equal(wholeA, keptA) || !slices.Equal(wholeB, keptB) {
		t.Errorf("written into: %v %v", wholeA, wholeB)
	}
}

func TestMixIsFreshEachTime(t *testing.T) {
	a, b := []int{1, 2}, []int{0, 0}
	first, _ := sound.Mix(a, b)
	second, _ := sound.Mix(a, b)
	first[0], a[1] = 99, 98
	if want := []int{1, 2}; !slices.Equal(second, want) {
		t.Errorf("second Mix: %v, want %v", second, want)
	}
	same, _ := sound.Mix(b, b)
	same[0] = 5
	if b[0] != 0 {
		t.Error("Mix of a list with itself shares its memory")
	}
}

func TestBeyond(t *testing.T) {
	for _, bound := range []int{0, 1, 1000, 4000} {
		far := sound.Beyond(bound)
		for _, n := range []int{-bound, 0, bound} {
			if far(n) {
				t.Errorf("%d is not beyond %d", n, bound)
			}
		}
		for _, n := range []int{-bound - 1, bound + 1, math.MaxInt, math.MinInt, math.MinInt + 1} {
			if !far(n) {
				t.Errorf("%d is beyond %d", n, bound)
			}
		}
	}
}

func TestDistance(t *testing.T) {
	for n, want := range map[int]int{0: 0, 1: 1, -1: 1, 1000: 1000, -1000: 1000, math.MaxInt: math.MaxInt, math.MinInt + 1: math.MaxInt} {
		if got := sound.Distance(n); got != want {
			t.Errorf("Distance of %d: %d, want %d", n, got, want)
		}
	}
}

func TestDistances(t *testing.T) {
	for _, c := range []struct {
		list []int
		want int
	}{
		{nil, 0}, {[]int{0}, 0}, {[]int{3, -4, 0}, 7}, {[]int{5, -5}, 10}, {[]int{-2000, 2000}, 4000},
		{[]int{1 << 40, -1}, 1<<40 + 1}, {repeat(-1001, api.MaxSound+1), 1001 * (api.MaxSound + 1)},
	} {
		if got := sound.Distances(c.list); got != c.want {
			t.Errorf("Distances of %v: %d, want %d", c.list, got, c.want)
		}
	}
}
