package packed

import (
	"bytes"
	"compress/flate"
	"errors"
	"strings"
	"testing"
)

// pack answers text in blocks of about size bytes: the greater the size, the
// more of them are of kind 2.
func pack(t *testing.T, text string, size int) string {
	t.Helper()
	var b bytes.Buffer
	w, err := flate.NewWriter(&b, 9)
	if err != nil {
		t.Fatal(err)
	}
	for i := 0; i < len(text); i += size {
		w.Write([]byte(text[i:min(len(text), i+size)]))
		w.Flush()
	}
	w.Close()
	return b.String()
}

func sample() string {
	var b strings.Builder
	for i := range 400 {
		b.WriteByte("abcdefgh\xf0\xf1"[i*i%10])
		b.WriteString("xyz"[:i%4])
	}
	return b.String()
}

func isShort(err error) bool {
	var short *Short
	return errors.As(err, &short)
}

// TestPieces: a reader that gave up stands ahead of the step that it could not
// make, and goes on from there.
func TestPieces(t *testing.T) {
	text := sample()
	for _, size := range []int{20, 150, 1000} {
		checkPieces(t, pack(t, text, size), text)
	}
}

func checkPieces(t *testing.T, data, text string) {
	t.Helper()
	for size := 1; size <= 40; size++ {
		r := NewReader(len(text), NewTables(0))
		out := ""
		for i := 0; i < len(data); i += size {
			more, err := r.Read(data[i:min(len(data), i+size)])
			if last := i+size >= len(data); last && err != nil || !last && !isShort(err) {
				t.Fatalf("pieces of %d: at %d: %v", size, i, err)
			}
			if out += more; !strings.HasPrefix(text, out) {
				t.Fatalf("pieces of %d: at %d: %q", size, i, out)
			}
		}
		if out != text || r.Begun() != len(data) {
			t.Fatalf("pieces of %d: %d bytes of %d, %d of %d begun", size, len(out), len(text), r.Begun(), len(data))
		}
	}
}

func TestStandsAheadOfTheStep(t *testing.T) {
	for _, c := range []struct {
		name, data, more string
		at               int
	}{
		{"nothing", "", "\x03\x00", 0},
		{"the two numbers", "\x01\x01\x00\xfe", "\xffa", 3},
		{"a byte", "\x01\x02\x00\xfd\xffa", "b", 48},
		{"the codes", pack(t, sample(), 2000)[:20], pack(t, sample(), 2000)[20:], 3},
		{"a symbol", "\x4b", "\x04\x00", 3},
	} {
		r := NewReader(6000, NewTables(0))
		if _, err := r.Read(c.data); !isShort(err) || 8*r.passed+r.at != c.at {
			t.Errorf("%s: stands at bit %d, want %d: %v", c.name, 8*r.passed+r.at, c.at, err)
		}
		if out, err := r.Read(""); out != "" || !isShort(err) || 8*r.passed+r.at != c.at {
			t.Errorf("%s: with nothing more: %q, stands at bit %d, want %d: %v", c.name, out, 8*r.passed+r.at, c.at, err)
		}
		if _, err := r.Read(c.more); err != nil {
			t.Errorf("%s: with the rest: %v", c.name, err)
		}
	}
}

// TestPassed: of the pieces no more is kept than the next step needs.
func TestPassed(t *testing.T) {
	r := NewReader(6000, NewTables(0))
	for i, piece := range []string{"\x01\x00\x01\xff\xfe", "ab", "", "cdefg"} {
		if _, err := r.Read(piece); !isShort(err) || len(r.data) != 0 {
			t.Errorf("piece %d: %d bytes are kept: %v", i, len(r.data), err)
		}
	}
	if r.Begun() != 12 {
		t.Errorf("%d bytes were begun, want 12", r.Begun())
	}
}

func TestNothingIsReadBehindTheEnd(t *testing.T) {
	r := NewReader(0, NewTables(0))
	for _, piece := range []string{"\x03\x00\xff", "\xff\xff", ""} {
		if out, err := r.Read(piece); out != "" || err != nil || r.Begun() != 2 {
			t.Errorf("%q: %q, %d bytes begun: %v", piece, out, r.Begun(), err)
		}
	}
}

func TestPutOutAheadOfTheLimit(t *testing.T) {
	text := strings.Repeat("a", 100)
	for limit := range len(text) {
		out, err := NewReader(limit, NewTables(0)).Read(pack(t, text, 50))
		if !errors.Is(err, ErrLimit) || out != text[:limit] {
			t.Errorf("limit %d: %d bytes: %v", limit, len(out), err)
		}
	}
}

func TestErrorsWrapTheirCause(t *testing.T) {
	for _, c := range []struct {
		data  string
		cause error
		text  string
	}{
		{"\x07", ErrBlock, "the step from bit 0: a block's head: no such kind of block"},
		{"\x01\x00\x00\xff\xfe", ErrStored, "the step from bit 3: a block of kind 0: a number of bytes that does not agree with itself"},
		{"\xfd\x00\x00", ErrCode, "the step from bit 3: how many lengths there are: lengths that make no code"},
		{"\x03\x02", ErrFar, "the step from bit 3: a distance: a distance beyond the beginning"},
		{"\x4b\x04\x00", ErrLimit, "the step from bit 3: more than may be put out"},
	} {
		_, err := NewReader(0, NewTables(0)).Read(c.data)
		if !errors.Is(err, c.cause) || isShort(err) {
			t.Errorf("%q: %v, want %v", c.data, err, c.cause)
		} else if err.Error() != c.text {
			t.Errorf("%q: the text is %q, want %q", c.data, err, c.text)
		}
	}
	if _, err := NewReader(0, NewTables(0)).Read("\x03"); !isShort(err) || err.Error() != "the step from bit 3: there are 8 bits and no more" {
		t.Errorf("too short: %v", err)
	}
}

func TestLengthsAreKeys(t *testing.T) {
	fixed := fixedLengths()
	other := fixed
	other[len(other)-1]++
	if fixed != fixedLengths() || fixed == other {
		t.Error("lengths are told apart by all of them")
	}
}

func TestErrorsTellBitsOfAllPieces(t *testing.T) {
	r := NewReader(0, NewTables(0))
	for _, c := range []struct{ piece, text string }{
		{"\x00\x00\x00", "the step from bit 3: there are 24 bits and no more"},
		{"\xff\xff", "the step from bit 40: there are 40 bits and no more"},
		{"\x06", "the step from bit 40: a block's head: no such kind of block"},
	} {
		if _, err := r.Read(c.piece); err == nil || err.Error() != c.text {
			t.Errorf("%q: the text is %q, want %q", c.piece, err, c.text)
		}
	}
}
