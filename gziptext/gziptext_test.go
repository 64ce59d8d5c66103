package gziptext

import (
	"errors"
	"slices"
	"strings"
	"testing"

	"gunz/packed"
)

// TestErrorsWrapTheirCause: what is wrong is told with where it is, and can be
// asked for.
func TestErrorsWrapTheirCause(t *testing.T) {
	right := Write([]Member{{Name: "first", Data: "text"}}, 1)
	ninth := strings.Repeat(Write([]Member{{}}, 1), MostMembers)
	for _, c := range []struct {
		text  string
		cause error
		where string
	}{
		{right + "x", ErrHead, "the member from byte 30: the first bytes: a head"},
		{"\x1f\x8b\x08\x40", ErrHead, "the member from byte 0: the flags: a head"},
		{"\x1f\x8b\x08\x04\x00\x00\x00\x00\x00\xff\x29\x00", ErrHead, "the member from byte 0: the number of an extra field: "},
		{"\x1f\x8b\x08\x08\x00\x00\x00\x00\x00\xff" + strings.Repeat("n", 41), ErrHead, "the member from byte 0: a name or a comment: "},
		{"\x1f\x8b\x08\x02\x00\x00\x00\x00\x00\xff\x00\x00", ErrHead, "the member from byte 0: the check of the head: "},
		{ninth + "\x1f", ErrHead, "the member from byte 160: one too many: "},
		{right[:len(right)-1] + "\x01", ErrSum, "the member from byte 0: the end: an end"},
		{right[:16] + "\x07", packed.ErrBlock, "the member from byte 0: the step from bit 0: a block's head: "},
	} {
		members, err := Read(c.text, 100)
		if members != nil || !errors.Is(err, c.cause) || !strings.HasPrefix(err.Error(), c.where) {
			t.Errorf("Read(%q): %v, %v, want %v in %q", c.text, members, err, c.cause, c.where)
		}
	}
	for cut := range right {
		members, err := Read(right[:cut], 100)
		var short *packed.Short
		if members != nil || !errors.As(err, &short) {
			t.Errorf("Read of %d bytes: %v, %v", cut, members, err)
		}
	}
}

func TestReadsWhatItWrites(t *testing.T) {
	members := []Member{{"name", "comment", "extra", 1<<32 - 1, "data"}, {}, {Data: strings.Repeat("more data ", 100)}}
	for kind := range 3 {
		text := Write(members, kind)
		got, err := Read(text, 1004)
		if !slices.Equal(got, members) || err != nil {
			t.Errorf("kind %d: %v, %v", kind, got, err)
		}
		if _, err := Read(text, 1003); !errors.Is(err, packed.ErrLimit) {
			t.Errorf("kind %d: limit: %v", kind, err)
		}
	}
}
