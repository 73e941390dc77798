package letters_test

import (
	"strings"
	"testing"

	"purlin/letters"
)

const (
	small   = "abcdefghijklmnopqrstuvwxyz"
	capital = "ABCDEFGHIJKLMNOPQRSTUVWXYZ"
	digits  = "0123456789"
)

func TestKindsOfBytes(t *testing.T) {
	for b := range 256 {
		for _, k := range []struct {
			name string
			is   func(byte) bool
			of   string
		}{
			{"Small", letters.Small, small},
			{"Capital", letters.Capital, capital},
			{"Digit", letters.Digit, digits},
			{"Inner", letters.Inner, small + capital + digits + "_"},
		} {
			if got, want := k.is(byte(b)), strings.IndexByte(k.of, byte(b)) >= 0; got != want {
				t.Errorf("%s(%d): %v, want %v", k.name, b, got, want)
			}
		}
	}
}

func TestRun(t *testing.T) {
	for s, want := range map[string]int{"": 0, "a": 0, "1": 1, "12a3": 2, "a12": 0, "123": 3} {
		if got := letters.Run(s, letters.Digit); got != want {
			t.Errorf("Run(%q): %d, want %d", s, got, want)
		}
	}
}
