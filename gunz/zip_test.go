package gunz_test

import (
	"compress/gzip"
	"fmt"
	"io"
	"math"
	"math/rand"
	"slices"
	"strings"
	"testing"

	"gunz/gunz"
)

// zipped answers what Zip must answer, by the document's words.
func zipped(members []gunz.Member, kind int) string {
	text := ""
	for _, m := range members {
		flags := 0
		if m.Extra != "" {
			flags |= flagExtra
		}
		if m.Name != "" {
			flags |= flagName
		}
		if m.Comment != "" {
			flags |= flagComment
		}
		head := headOf(flags, m)
		data, _ := gunz.Deflate(m.Data, kind)
		text += head[:8] + "\x00\xff" + head[10:] + data + endOf(m.Data)
	}
	return text
}

// checkZip: members make their gzip text, and that makes them again.
func checkZip(t *testing.T, name string, members []gunz.Member) {
	t.Helper()
	total := 0
	for _, m := range members {
		total += len(m.Data)
	}
	for kind := range 3 {
		given := slices.Clone(members)
		text, errno := gunz.Zip(given, kind)
		if want := zipped(members, kind); text != want || errno != gunz.OK {
			t.Errorf("P14: %s: kind %d: %.60q (%d bytes), %d, want %.60q (%d bytes)", name, kind, text, len(text), errno, want, len(want))
			continue
		}
		if !slices.Equal(given, members) {
			t.Errorf("P2: %s: members were changed", name)
		}
		checkUnzip(t, name, text, total, members)
		if total > 0 {
			checkNoUnzip(t, name+", limit", text, total-1, gunz.ErrLimit)
		}
	}
}

func checkNoZip(t *testing.T, name string, members []gunz.Member, kind int, want gunz.Errno) {
	t.Helper()
	text, errno := gunz.Zip(members, kind)
	if text != "" || errno != want {
		t.Errorf("P14: %s: kind %d: %.60q (%d bytes), %d, want %d", name, kind, text, len(text), errno, want)
	}
}

func TestZipBytes(t *testing.T) {
	members := []gunz.Member{{Name: "n", Comment: "co", Extra: "\x00", Time: 0x04030201, Data: "hi"}, {}}
	want := "\x1f\x8b\x08\x1c\x01\x02\x03\x04\x00\xff" + "\x01\x00\x00" + "n\x00" + "co\x00" +
		"\x01\x02\x00\xfd\xffhi" + "\xac\x2a\x93\xd8" + "\x02\x00\x00\x00" +
		"\x1f\x8b\x08\x00\x00\x00\x00\x00\x00\xff" + "\x01\x00\x00\xff\xff" + "\x00\x00\x00\x00\x00\x00\x00\x00"
	if text, errno := gunz.Zip(members, 0); text != want || errno != gunz.OK {
		t.Errorf("P14: %q, %d, want %q", text, errno, want)
	}
	if text, errno := gunz.Zip([]gunz.Member{{}}, 1); text != plainHead+"\x03\x00"+endOf("") || errno != gunz.OK {
		t.Errorf("P14: nothing: %q, %d", text, errno)
	}
}

// TestZipFlags: a flag for each of the three that is not empty.
func TestZipFlags(t *testing.T) {
	for i := range 8 {
		m := gunz.Member{Time: i, Data: "data"}
		flags := 0
		if i&1 != 0 {
			m.Extra, flags = "\x00", flags|4
		}
		if i&2 != 0 {
			m.Name, flags = "n", flags|8
		}
		if i&4 != 0 {
			m.Comment, flags = " ", flags|16
		}
		checkZip(t, fmt.Sprint("flags ", flags), []gunz.Member{m, {}, m})
		if text, _ := gunz.Zip([]gunz.Member{m}, 2); int(text[3]) != flags {
			t.Errorf("P14: %v: flags %d, want %d", m, text[3], flags)
		}
	}
}

func TestZipBounds(t *testing.T) {
	for n := range 9 {
		if n > 0 {
			checkZip(t, fmt.Sprint(n, " members"), make([]gunz.Member, n))
		}
	}
	for _, time := range []int{0, 1, 255, 256, 65535, 65536, 1<<31 - 1, 1 << 31, 1<<32 - 2, 1<<32 - 1} {
		checkZip(t, fmt.Sprint("time ", time), []gunz.Member{{Time: time}})
	}
	for n := range 41 {
		text, zeros := strings.Repeat("\xff", n), strings.Repeat("\x00", n)
		for _, m := range []gunz.Member{{Name: text}, {Comment: text}, {Extra: text}, {Extra: zeros}, {Name: text, Comment: text, Extra: zeros}} {
			checkZip(t, fmt.Sprint(n, " bytes"), []gunz.Member{m})
		}
	}
	for b := 1; b < 256; b++ {
		text := bytesOf(b, 1)
		checkZip(t, fmt.Sprint("byte ", b), []gunz.Member{{Name: text, Comment: text, Extra: text, Data: text}})
	}
	for _, n := range []int{0, 1, 255, 256, 257, 1499, 1500} {
		checkZip(t, fmt.Sprint(n, " bytes of data"), []gunz.Member{{Data: strings.Repeat("d", n)}, {}})
	}
}

// TestZipMaxData: by kind 0 a member has 23 bytes beside its data.
func TestZipMaxData(t *testing.T) {
	sized := func(sizes ...int) []gunz.Member {
		var members []gunz.Member
		for _, size := range sizes {
			members = append(members, gunz.Member{Data: strings.Repeat("d", size)})
		}
		return members
	}
	for _, sizes := range [][]int{{1500, 1500, 931}, {931, 1500, 1500}, {477, 477, 477, 477, 477, 477, 477, 477}, {1316, 1316, 1299}} {
		full := sized(sizes...)
		if text, errno := gunz.Zip(full, 0); len(text) != 4000 || errno != gunz.OK || text != zipped(full, 0) {
			t.Errorf("P14: MaxData: %d bytes, %d", len(text), errno)
		}
		for i := range sizes {
			if sizes[i] < 1500 {
				more := slices.Clone(sizes)
				more[i]++
				checkNoZip(t, "one beyond MaxData", sized(more...), 0, gunz.ErrLong)
			}
		}
		full[0].Extra = "e"
		checkNoZip(t, "an extra field beyond MaxData", full, 0, gunz.ErrLong)
		full[0].Extra, full[len(full)-1].Name = "", "n"
		checkNoZip(t, "a name beyond MaxData", full, 0, gunz.ErrLong)
	}
	most := sized(1500, 1500, 1500, 1500, 1500, 1500, 1500, 1500)
	checkNoZip(t, "all that is allowed", most, 0, gunz.ErrLong)
	for kind := 1; kind <= 2; kind++ {
		if text, errno := gunz.Zip(most, kind); text != zipped(most, kind) || errno != gunz.OK {
			t.Errorf("P14: all that is allowed: kind %d: %d bytes, %d", kind, len(text), errno)
		}
	}
	// What counts is the answer, which hangs on the kind.
	r := rand.New(rand.NewSource(15))
	few := []gunz.Member{{Data: randomBytes(r, 1500, 64)}, {Data: randomBytes(r, 1500, 64)}, {Data: randomBytes(r, 1500, 64)}}
	for kind := range 3 {
		text, errno := gunz.Zip(few, kind)
		want, wantErrno := zipped(few, kind), gunz.OK
		if len(want) > 4000 {
			want, wantErrno = "", gunz.ErrLong
		}
		if text != want || errno != wantErrno || (errno == gunz.OK) != (kind == 2) {
			t.Errorf("P14: kind %d: %d bytes, %d, want %d bytes, %d", kind, len(text), errno, len(want), wantErrno)
		}
	}
}

// wrongMembers answers lists of members with each thing that can be wrong.
func wrongMembers() map[gunz.Errno][]gunz.Member {
	long := strings.Repeat("n", 41)
	return map[gunz.Errno][]gunz.Member{
		gunz.ErrRange: {{Time: -1}, {Time: 1 << 32}, {Time: math.MinInt}, {Time: math.MaxInt}, {Time: 1<<32 + 1}},
		gunz.ErrHead: {{Name: long}, {Comment: long}, {Extra: long}, {Name: strings.Repeat("n", 70000)},
			{Name: "\x00"}, {Comment: "\x00"}, {Name: "a\x00b"}, {Comment: "a\x00b"}, {Name: long[:39] + "\x00"}, {Comment: long[:39] + "\x00"}},
		gunz.ErrLong: {{Data: strings.Repeat("d", 1501)}, {Data: strings.Repeat("d", 70000)}},
	}
}

func TestZipWrongMembers(t *testing.T) {
	for errno, wrong := range wrongMembers() {
		for _, m := range wrong {
			for n := 1; n <= 8; n++ {
				for at := range n {
					members := make([]gunz.Member, n)
					members[at] = m
					for kind := range 3 {
						checkNoZip(t, fmt.Sprintf("%.20v as %d of %d", m, at, n), members, kind, errno)
					}
				}
			}
		}
	}
}

func TestZipWrongNumbers(t *testing.T) {
	for _, kind := range []int{-1, 3, 4, 258, math.MinInt, math.MaxInt} {
		checkNoZip(t, "the kind", []gunz.Member{{Name: "a"}}, kind, gunz.ErrRange)
		checkNoZip(t, "the kind and no members", nil, kind, gunz.ErrRange)
		for _, wrong := range wrongMembers() {
			for _, m := range wrong {
				checkNoZip(t, "the kind and more", []gunz.Member{m}, kind, gunz.ErrRange)
			}
		}
	}
	for kind := range 3 {
		checkNoZip(t, "no members", nil, kind, gunz.ErrRange)
		checkNoZip(t, "no members", []gunz.Member{}, kind, gunz.ErrRange)
		for _, n := range []int{9, 10, 100, 100000} {
			checkNoZip(t, "members", make([]gunz.Member, n), kind, gunz.ErrRange)
			for _, wrong := range wrongMembers() {
				checkNoZip(t, "members and more", append(make([]gunz.Member, n), wrong...), kind, gunz.ErrRange)
			}
		}
	}
}

// TestZipFirstNamed: of several errors the one that is named first is told,
// in whatever order the members have them.
func TestZipFirstNamed(t *testing.T) {
	order := []gunz.Errno{gunz.ErrRange, gunz.ErrHead, gunz.ErrLong}
	wrong := wrongMembers()
	for i, first := range order {
		for _, later := range order[i+1:] {
			for _, one := range wrong[first] {
				for _, other := range wrong[later] {
					checkNoZip(t, "two members", []gunz.Member{one, {}, other}, 1, first)
					checkNoZip(t, "two members", []gunz.Member{other, {}, one}, 1, first)
					both := gunz.Member{one.Name + other.Name, one.Comment + other.Comment, one.Extra + other.Extra, one.Time + other.Time, one.Data + other.Data}
					checkNoZip(t, "one member", []gunz.Member{both}, 1, first)
				}
			}
		}
	}
	full := make([]gunz.Member, 4)
	for i := range full {
		full[i].Data = strings.Repeat("d", 1500)
	}
	for _, errno := range order[:2] {
		for _, m := range wrong[errno] {
			checkNoZip(t, "beyond MaxData", append(slices.Clone(full), m), 0, errno)
			checkNoZip(t, "beyond MaxData", append([]gunz.Member{m}, full...), 0, errno)
		}
	}
}

func randomMembers(r *rand.Rand) []gunz.Member {
	members := make([]gunz.Member, 1+r.Intn(8))
	name := func() string {
		text := []byte(randomBytes(r, r.Intn(2)*r.Intn(41), 255))
		for i := range text {
			text[i]++
		}
		return string(text)
	}
	for i := range members {
		members[i] = gunz.Member{
			Name:    name(),
			Comment: name(),
			Extra:   randomBytes(r, r.Intn(2)*r.Intn(41), 256),
			Time:    r.Intn(1 << 32),
			Data:    withRepeats(r, r.Intn(300), 1+r.Intn(256)),
		}
	}
	return members
}

func TestZipRandom(t *testing.T) {
	r := rand.New(rand.NewSource(16))
	for range 150 {
		checkZip(t, "random members", randomMembers(r))
	}
}

// TestZipForOther: another program reads what is written.
func TestZipForOther(t *testing.T) {
	r := rand.New(rand.NewSource(17))
	for i := range 150 {
		members := randomMembers(r)
		text, errno := gunz.Zip(members, i%3)
		source := strings.NewReader(text)
		z, err := gzip.NewReader(source)
		if errno != gunz.OK || err != nil {
			t.Fatalf("P14: Zip(%v): %d, another program: %v", members, errno, err)
		}
		for k, m := range members {
			if k > 0 {
				err = z.Reset(source)
			}
			z.Multistream(false)
			all, readErr := io.ReadAll(z)
			time := int(z.ModTime.Unix())
			if err != nil || readErr != nil || string(all) != m.Data || string(z.Extra) != m.Extra || time != m.Time ||
				z.Name != asRunes(m.Name) || z.Comment != asRunes(m.Comment) {
				t.Fatalf("P14: Zip(%v): another program: %v, %q, %v, %v", members, z.Header, all, err, readErr)
			}
		}
		if source.Len() != 0 {
			t.Errorf("P14: another program leaves %d bytes", source.Len())
		}
	}
}

// asRunes takes each byte as a rune: so the other program tells names.
func asRunes(text string) string {
	var b strings.Builder
	for i := range len(text) {
		b.WriteRune(rune(text[i]))
	}
	return b.String()
}
