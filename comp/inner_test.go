package comp

import (
	"testing"

	"wimple/api"
)

// A Writer's bytes end far ahead of MaxPointer, so what lies about it is tried from within.
func TestPlacesAboutMaxPointer(t *testing.T) {
	n := "\x01a\x01b\x00"
	for _, c := range []struct {
		place int
		fresh int
		end   string
	}{
		{0, 0, "\xc0\x00"}, {255, 0, "\xc0\xff"}, {256, 0, "\xc1\x00"}, {api.MaxMessage, 0, "\xd0\x00"},
		{api.MaxPointer - 1, 0, "\xff\xfe"}, {api.MaxPointer, 0, "\xff\xff"},
		{api.MaxPointer + 1, 4, "\x00"}, {1 << 16, 4, "\x00"},
	} {
		w := New()
		w.keep(n, c.place)
		if fresh, end := w.split(n); fresh != c.fresh || end != c.end {
			t.Errorf("P5.1: with a place of %d: %d bytes, then %q", c.place, fresh, end)
		}
	}
}

// The labels of one name may stand on both sides of MaxPointer: the last places that a pointer tells are kept.
func TestLabelsAcrossMaxPointer(t *testing.T) {
	n := "\x01a\x01b\x01c\x00"
	w := &Writer{out: make([]byte, api.MaxPointer-2)}
	w.keepRests(n, len(n)-1)
	for _, c := range []struct {
		n     string
		fresh int
		end   string
	}{{n, 0, "\xff\xfd"}, {n[2:], 0, "\xff\xff"}, {n[4:], 2, "\x00"}} {
		if fresh, end := w.split(c.n); fresh != c.fresh || end != c.end {
			t.Errorf("P5.1: %q: %d bytes, then %q", c.n, fresh, end)
		}
	}
}
