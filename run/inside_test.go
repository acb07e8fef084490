package run

import (
	"slices"
	"testing"

	"pulsehorn/api"
)

// wrapped is an error with an Errno inside.
type wrapped struct{ inner error }

func (w wrapped) Error() string { return "wrapped" }
func (w wrapped) Unwrap() error { return w.inner }

// TestNamesOfWrappedErrors: an error that wraps an Errno has the name of that.
func TestNamesOfWrappedErrors(t *testing.T) {
	for want, err := range map[string]error{"ErrRange": api.ErrRange, "ErrSyntax": api.ErrSyntax, "ErrLow": api.ErrLow, "bad": badLine{api.ErrSyntax}} {
		for _, e := range []error{err, wrapped{err}, wrapped{wrapped{err}}} {
			if got := told(e, 1, 2); got != want {
				t.Errorf("told of %#v: %q, want %q", e, got, want)
			}
		}
	}
}

// TestLinesStop where no more are asked for, and begin again.
func TestLinesStop(t *testing.T) {
	all := lines("a\n\nb\nc")
	for many, want := range [][]string{{"a"}, {"a", ""}, {"a", "", "b"}, {"a", "", "b", "c"}} {
		var got []string
		for line := range all {
			got = append(got, line)
			if len(got) > many {
				break
			}
		}
		if !slices.Equal(got, want) {
			t.Errorf("%q, want %q", got, want)
		}
	}
}
