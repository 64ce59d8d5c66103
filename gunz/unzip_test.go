package gunz_test

import (
	"bytes"
	"compress/gzip"
	"fmt"
	"hash/crc32"
	"io"
	"math"
	"math/rand"
	"slices"
	"strings"
	"testing"

	"gunz/gunz"
)

// bytesOf answers a number of n bytes, the lowest first.
func bytesOf(value, n int) string { return packBits(number(value, 8*n)) }

func sumOf(text string) int { return int(crc32.ChecksumIEEE([]byte(text))) }

// The flags of a head.
const (
	flagNothing = 1 << iota
	flagCheck
	flagExtra
	flagName
	flagComment
)

// headOf answers a head with what the flags tell of.
func headOf(flags int, m gunz.Member) string {
	head := "\x1f\x8b\x08" + bytesOf(flags, 1) + bytesOf(m.Time, 4) + "\x02\x03"
	if flags&flagExtra != 0 {
		head += bytesOf(len(m.Extra), 2) + m.Extra
	}
	if flags&flagName != 0 {
		head += m.Name + "\x00"
	}
	if flags&flagComment != 0 {
		head += m.Comment + "\x00"
	}
	if flags&flagCheck != 0 {
		head += bytesOf(sumOf(head)&0xffff, 2)
	}
	return head
}

func endOf(out string) string { return bytesOf(sumOf(out), 4) + bytesOf(len(out), 4) }

// plainHead is a head without flags.
const plainHead = "\x1f\x8b\x08\x00\x00\x00\x00\x00\x00\xff"

// holding answers a member with that data, by a block of kind 0.
func holding(data string) string {
	return plainHead + packBits(stored("", true, data)) + endOf(data)
}

func checkUnzip(t *testing.T, name, data string, limit int, want []gunz.Member) {
	t.Helper()
	got, errno := gunz.Unzip(data, limit)
	if !slices.Equal(got, want) || errno != gunz.OK {
		t.Errorf("P13: %s: Unzip(%.40q, %d) = %.40v, %d, want %.40v", name, data, limit, got, errno, want)
	}
}

func checkNoUnzip(t *testing.T, name, data string, limit int, want gunz.Errno) {
	t.Helper()
	got, errno := gunz.Unzip(data, limit)
	if got != nil || errno != want {
		t.Errorf("P13: %s: Unzip(%.60q (%d bytes), %d) = %.40v, %d, want %d", name, data, len(data), limit, got, errno, want)
	}
}

// checkUnzipMet: of a text, errno is met with its last byte, whatever stands
// behind it; with fewer bytes the text is too short. So it is for the text
// behind other members, which have a limit of their own on top.
func checkUnzipMet(t *testing.T, name, text string, limit int, errno gunz.Errno) {
	t.Helper()
	for i, ahead := range []string{"", holding("other"), holding("") + holding("xyz")} {
		limit := limit + []int{0, 5, 3}[i]
		for cut := range len(text) {
			if cut > 0 || i == 0 {
				checkNoUnzip(t, name+", cut", ahead+text[:cut], limit, gunz.ErrShort)
			}
		}
		for _, more := range []string{"", "\x00", "\xff", plainHead, "more of it and still more"} {
			checkNoUnzip(t, name, ahead+text+more, limit, errno)
		}
	}
}

func TestUnzipRefused(t *testing.T) {
	long := plainHead + packBits(stored("", true, strings.Repeat("x", 3977))) + endOf(strings.Repeat("x", 3977))
	if len(long) != 4000 {
		t.Fatalf("the long text has %d bytes", len(long))
	}
	checkUnzip(t, "MaxData", long, 3977, []gunz.Member{{Data: strings.Repeat("x", 3977)}})
	checkNoUnzip(t, "one beyond MaxData", long+"\x1f", 6000, gunz.ErrLong)
	checkNoUnzip(t, "far beyond MaxData", strings.Repeat(long, 20), 6000, gunz.ErrLong)
	checkNoUnzip(t, "wrong and one beyond MaxData", strings.Repeat("x", 4001), 6000, gunz.ErrLong)
	checkNoUnzip(t, "wrong and MaxData", strings.Repeat("x", 4000), 100, gunz.ErrHead)
	for _, limit := range []int{-1, 6001, math.MinInt, math.MaxInt} {
		checkNoUnzip(t, "the limit", holding(""), limit, gunz.ErrRange)
		checkNoUnzip(t, "the limit and no data", "", limit, gunz.ErrRange)
		checkNoUnzip(t, "the limit and a wrong head", "x", limit, gunz.ErrRange)
		checkNoUnzip(t, "the limit and too much data", long+"\x1f", limit, gunz.ErrLong)
	}
	for _, limit := range []int{0, 6000} {
		checkUnzip(t, "the limit", holding(""), limit, []gunz.Member{{}})
		checkNoUnzip(t, "no data", "", limit, gunz.ErrShort)
	}
}

// TestUnzipFlags: each of the 32 heads is read, and is too short if cut.
func TestUnzipFlags(t *testing.T) {
	m := gunz.Member{Name: "a name", Comment: "a comment", Extra: "e\x00x\xff", Time: 0x01020384, Data: "data"}
	for flags := range 32 {
		want := m
		if flags&flagExtra == 0 {
			want.Extra = ""
		}
		if flags&flagName == 0 {
			want.Name = ""
		}
		if flags&flagComment == 0 {
			want.Comment = ""
		}
		text := headOf(flags, m) + packBits(fixed(true, m.Data)) + endOf(m.Data)
		name := fmt.Sprint("flags ", flags)
		checkUnzip(t, name, text, 4, []gunz.Member{want})
		checkUnzip(t, name+", the second", holding("12")+text, 6, []gunz.Member{{Data: "12"}, want})
		checkUnzip(t, name+", twice", text+text, 8, []gunz.Member{want, want})
		for cut := range text {
			checkNoUnzip(t, name+", cut", text[:cut], 4, gunz.ErrShort)
			if cut > 0 {
				checkNoUnzip(t, name+", cut, the second", text+text[:cut], 8, gunz.ErrShort)
			}
		}
	}
}

func TestUnzipFirstBytes(t *testing.T) {
	for at := range 3 {
		for b := range 256 {
			if b != int(plainHead[at]) {
				checkUnzipMet(t, "a first byte", plainHead[:at]+bytesOf(b, 1), 100, gunz.ErrHead)
			}
		}
	}
	for flags := 32; flags < 256; flags++ {
		checkUnzipMet(t, "the flags", plainHead[:3]+bytesOf(flags, 1), 100, gunz.ErrHead)
	}
}

// TestUnzipNumbers: the time, the bytes of no meaning.
func TestUnzipNumbers(t *testing.T) {
	end := packBits(fixed(true, "")) + endOf("")
	for _, time := range []int{0, 1, 127, 128, 255, 256, 65535, 65536, 1 << 24, 1<<31 - 1, 1 << 31, 1<<32 - 1, 0x89abcdef} {
		checkUnzip(t, "the time", headOf(0, gunz.Member{Time: time})+end, 0, []gunz.Member{{Time: time}})
	}
	for b := range 256 {
		one := bytesOf(b, 1)
		checkUnzip(t, "no meaning", plainHead[:8]+one+bytesOf(255-b, 1)+end, 0, []gunz.Member{{}})
		checkUnzip(t, "no meaning", plainHead[:8]+one+one+end, 0, []gunz.Member{{}})
	}
}

func TestUnzipExtra(t *testing.T) {
	end := packBits(fixed(true, "!")) + endOf("!")
	every := packBits(allBits("\x00\x1f\x8b\xff")) + strings.Repeat("\x00", 20) + strings.Repeat("ab", 20)
	for n := range 41 {
		m := gunz.Member{Extra: every[:n], Data: "!"}
		checkUnzip(t, "an extra field", headOf(flagExtra, m)+end, 1, []gunz.Member{m})
	}
	head := plainHead[:3] + "\x04" + plainHead[4:]
	for _, n := range []int{41, 42, 64, 127, 128, 255, 256, 257, 256 + 40, 512, 1 << 15, 1<<15 + 1, 65535} {
		checkUnzipMet(t, fmt.Sprint("an extra field of ", n), head+bytesOf(n, 2), 100, gunz.ErrHead)
	}
}

func TestUnzipNames(t *testing.T) {
	end := packBits(fixed(true, "!")) + endOf("!")
	var every strings.Builder
	for b := 1; b < 256; b++ {
		every.WriteByte(byte(b))
	}
	for from := 0; from < 255; from += 5 {
		for n := range min(41, 256-from) {
			name := every.String()[from:][:n]
			m := gunz.Member{Name: name, Data: "!"}
			checkUnzip(t, "a name", headOf(flagName, m)+end, 1, []gunz.Member{m})
			m = gunz.Member{Comment: name, Data: "!"}
			checkUnzip(t, "a comment", headOf(flagComment, m)+end, 1, []gunz.Member{m})
			m = gunz.Member{Name: name, Comment: name + "c"[n/40:], Data: "!"}
			checkUnzip(t, "both", headOf(flagName|flagComment, m)+end, 1, []gunz.Member{m})
		}
	}
	long := strings.Repeat("n", 41)
	most := gunz.Member{Extra: long[:40], Name: long[:40], Comment: long[:40]}
	for flags := range 32 {
		// The check of the head stands behind all, so what is ahead is without it.
		ahead := headOf(flags&^flagCheck&^flagComment, most)
		ahead = ahead[:3] + bytesOf(flags, 1) + ahead[4:]
		switch {
		case flags&flagComment != 0:
			checkUnzipMet(t, "a long comment", ahead+long, 100, gunz.ErrHead)
		case flags&flagName != 0:
			checkUnzipMet(t, "a long name", ahead[:len(ahead)-1]+"n", 100, gunz.ErrHead)
		}
	}
	checkUnzipMet(t, "a long name of other bytes", headOf(flagName, gunz.Member{})[:10]+strings.Repeat("\xff", 41), 100, gunz.ErrHead)
}

// TestUnzipHeadCheck: the lower half of the check sum of this member's bytes.
func TestUnzipHeadCheck(t *testing.T) {
	m := gunz.Member{Name: "name", Comment: "comment", Extra: "extra", Time: 77}
	for flags := range 32 {
		if flags&flagCheck == 0 {
			continue
		}
		right := headOf(flags, m)
		for bit := range 16 {
			wrong := []byte(right)
			wrong[len(right)-2+bit/8] ^= 1 << (bit % 8)
			checkUnzipMet(t, fmt.Sprint("the check of the head, bit ", bit), string(wrong), 100, gunz.ErrHead)
		}
	}
	ahead := headOf(flagCheck, m)
	higher := ahead[:10] + bytesOf(sumOf(ahead[:10])>>16, 2)
	checkUnzipMet(t, "the higher half", higher, 100, gunz.ErrHead)
	turned := ahead[:10] + ahead[11:12] + ahead[10:11]
	checkUnzipMet(t, "the bytes the other way round", turned, 100, gunz.ErrHead)
	checkUnzip(t, "behind a member", holding("a")+ahead+packBits(fixed(true, "b"))+endOf("b"), 2,
		[]gunz.Member{{Data: "a"}, {Data: "b", Time: 77}})
}

// packedErrors are packed data of which the last byte makes the error met, if
// the limit is 12.
func packedErrors() map[gunz.Errno]string {
	c := fixedCodes()
	return map[gunz.Errno]string{
		gunz.ErrBlock:  "\x07",
		gunz.ErrStored: "\x01\x05\x00\xfa\xfe",
		gunz.ErrCode:   packBits(head(true, 2) + sizes(288, 1, 19)),
		gunz.ErrSymbol: packBits(head(true, 1) + c.bytes("abc") + c.symbols[286]),
		gunz.ErrFar:    packBits(head(true, 1) + c.bytes("abc") + c.again(3, 4)),
		gunz.ErrLimit:  packBits(head(true, 1) + c.bytes("abc") + c.again(10, 3)),
	}
}

func TestUnzipPackedErrors(t *testing.T) {
	for errno, data := range packedErrors() {
		checkUnzipMet(t, "packed data", plainHead+data, 12, errno)
		checkNoUnzip(t, "packed data behind a head that is checked", headOf(31, gunz.Member{})+data, 12, errno)
		checkNoUnzip(t, "packed data behind a wrong head", plainHead[:3]+"\x20"+plainHead[4:]+data, 12, gunz.ErrHead)
	}
	c := fixedCodes()
	ahead := head(true, 1) + c.bytes("ab")
	checkNoUnzip(t, "a distance into the member ahead", holding("12345678")+plainHead+packBits(ahead+c.again(3, 3)), 6000, gunz.ErrFar)
	checkUnzip(t, "a distance to the beginning", holding("12345678")+plainHead+packBits(ahead+c.again(3, 2)+c.end())+endOf("ababa"), 6000,
		[]gunz.Member{{Data: "12345678"}, {Data: "ababa"}})
}

// TestUnzipPackedCut: packed data of each kind that are cut are too short.
func TestUnzipPackedCut(t *testing.T) {
	text := strings.Repeat("some text, ", 9)
	for kind := range 3 {
		data, _ := gunz.Deflate(text, kind)
		whole := plainHead + data + endOf(text)
		checkUnzip(t, "whole", whole, len(text), []gunz.Member{{Data: text}})
		for cut := range whole {
			checkNoUnzip(t, "cut", whole[:cut], len(text), gunz.ErrShort)
		}
	}
}

// TestUnzipLimit: the limit goes for all members together.
func TestUnzipLimit(t *testing.T) {
	for _, sizes := range [][]int{{1}, {5}, {1, 1}, {0, 3}, {3, 0}, {100, 200, 300}, {0, 0, 1, 0}, {1, 2, 3, 4, 5, 6, 7, 8}} {
		text, total := "", 0
		var want []gunz.Member
		for i, size := range sizes {
			data := strings.Repeat(string(rune('a'+i)), size)
			text += holding(data)
			total += size
			want = append(want, gunz.Member{Data: data})
		}
		checkUnzip(t, "the limit", text, total, want)
		checkUnzip(t, "the limit, one more", text, total+1, want)
		for limit := range total {
			checkNoUnzip(t, "the limit", text, limit, gunz.ErrLimit)
		}
	}
	// The byte that is one too many must be there.
	second := plainHead + packBits(stored("", true, "xyz"))
	checkNoUnzip(t, "one too many", holding("ab")+second[:17], 4, gunz.ErrShort)
	checkNoUnzip(t, "one too many", holding("ab")+second[:18], 4, gunz.ErrLimit)

	c := fixedCodes()
	bits := head(true, 1) + c.bytes("y") + strings.Repeat(c.again(258, 1), 11) + c.again(161, 1) + c.end()
	half := plainHead + packBits(bits) + endOf(strings.Repeat("y", 3000))
	data := gunz.Member{Data: strings.Repeat("y", 3000)}
	checkUnzip(t, "MaxOut", half+half, 6000, []gunz.Member{data, data})
	checkUnzip(t, "MaxOut, and nothing", half+half+holding(""), 6000, []gunz.Member{data, data, {}})
	checkNoUnzip(t, "beyond MaxOut", half+half+holding("y"), 6000, gunz.ErrLimit)
}

// TestUnzipLastByte: what is left of the last byte is passed over.
func TestUnzipLastByte(t *testing.T) {
	for n := range 9 {
		text := strings.Repeat("\xff", n) // of 9 bits each
		bits := fixed(true, text)
		for _, fill := range []string{"0000000", "1111111", "1010101"} {
			all := bits + fill[:(8-len(bits)%8)%8]
			checkUnzip(t, "the last byte", plainHead+packBits(all)+endOf(text)+holding("next"), 100, []gunz.Member{{Data: text}, {Data: "next"}})
		}
	}
}

func TestUnzipSum(t *testing.T) {
	for _, data := range []string{"", "a", "some text", strings.Repeat("a", 256), strings.Repeat("z", 300)} {
		right := holding(data)
		wrong := func(turn ...int) string {
			text := []byte(right)
			for _, bit := range turn {
				text[len(text)-8+bit/8] ^= 1 << (bit % 8)
			}
			return string(text)
		}
		for bit := range 64 {
			checkUnzipMet(t, fmt.Sprint("the end, bit ", bit), wrong(bit), len(data), gunz.ErrSum)
		}
		checkUnzipMet(t, "both numbers", wrong(0, 40), len(data), gunz.ErrSum)
	}
	// The numbers of both members together are not those of the second one.
	checkNoUnzip(t, "the sum of all", holding("a")+plainHead+packBits(stored("", true, "b"))+endOf("ab"), 10, gunz.ErrSum)
}

func TestUnzipMembers(t *testing.T) {
	for n := range 12 {
		text := ""
		var want []gunz.Member
		for i := range n {
			data := strings.Repeat(string(rune('a'+i)), i%3)
			text += holding(data)
			want = append(want, gunz.Member{Data: data})
		}
		switch {
		case n == 0:
			checkNoUnzip(t, "no member", text, 100, gunz.ErrShort)
		case n <= 8:
			checkUnzip(t, fmt.Sprint(n, " members"), text, 100, want)
		default:
			checkNoUnzip(t, fmt.Sprint(n, " members"), text, 100, gunz.ErrHead)
		}
		for b := range 256 {
			errno := gunz.ErrHead
			if b == 31 && n < 8 {
				errno = gunz.ErrShort
			}
			checkNoUnzip(t, fmt.Sprint("a byte behind ", n), text+bytesOf(b, 1), 100, errno)
		}
	}
	eighth := strings.Repeat(holding(""), 7) + plainHead
	checkNoUnzip(t, "the eighth is short", eighth, 100, gunz.ErrShort)
	checkNoUnzip(t, "the eighth is wrong", eighth+"\x07", 100, gunz.ErrBlock)
	checkNoUnzip(t, "the eighth and a ninth", eighth+"\x03\x00\x00\x00\x00\x00\x01\x00\x00\x00\x1f", 100, gunz.ErrSum)
}

// TestUnzipFirstMet: the members are read one behind the other, so what is
// wrong first is told, whatever is wrong behind it.
func TestUnzipFirstMet(t *testing.T) {
	wrong := map[gunz.Errno]string{
		gunz.ErrHead: plainHead[:3] + "\x80" + plainHead[4:] + "\x03\x00" + endOf(""),
		gunz.ErrSum:  plainHead + "\x03\x00" + endOf("x"),
	}
	for errno, data := range packedErrors() {
		wrong[errno] = plainHead + data + strings.Repeat("\x00", 9)
	}
	for first, text := range wrong {
		for _, behind := range wrong {
			checkNoUnzip(t, "two that are wrong", text+behind, 12, first)
			checkNoUnzip(t, "two that are wrong behind a right one", holding("")+text+behind, 12, first)
		}
	}
	long := strings.Repeat("n", 41)
	for _, c := range []struct {
		name, text string
		errno      gunz.Errno
	}{
		{"a first byte and the flags", "\x1e\x8b\x08\xff", gunz.ErrHead},
		{"an extra field and a name", plainHead[:3] + "\x0c" + plainHead[4:] + "\x29\x00" + long, gunz.ErrHead},
		{"a name and the packed data", plainHead[:3] + "\x08" + plainHead[4:] + long[:40] + "\x00\x07", gunz.ErrBlock},
		{"the check of the head and the packed data", plainHead[:3] + "\x02" + plainHead[4:] + "\x00\x00\x07", gunz.ErrHead},
		{"the limit and the end", plainHead + packBits(stored("", true, "1234567890abc")) + endOf("x"), gunz.ErrLimit},
	} {
		checkNoUnzip(t, c.name, c.text, 12, c.errno)
	}
}

// TestUnzipAnswersNewLists: what is done to an answer is not seen in others.
func TestUnzipAnswersNewLists(t *testing.T) {
	text := headOf(31, gunz.Member{Name: "n", Comment: "c", Extra: "e", Time: 5}) + packBits(fixed(true, "d")) + endOf("d") + holding("2")
	want := []gunz.Member{{"n", "c", "e", 5, "d"}, {Data: "2"}}
	first, _ := gunz.Unzip(text, 10)
	second, _ := gunz.Unzip(text, 10)
	for i := range first {
		first[i] = gunz.Member{Name: "spoilt", Data: "spoilt"}
	}
	if !slices.Equal(second, want) {
		t.Errorf("P2: an answer was changed: %v", second)
	}
	second[0].Time = 9
	checkUnzip(t, "asked again", text, 10, want)
}

// zippedByOther answers members that another program wrote.
func zippedByOther(r *rand.Rand, n int) (string, []gunz.Member) {
	var b bytes.Buffer
	var members []gunz.Member
	for range n {
		w, _ := gzip.NewWriterLevel(&b, []int{0, 1, 6, 9, -2}[r.Intn(5)])
		m := gunz.Member{Data: randomText(r, r.Intn(400))}
		if r.Intn(2) == 0 {
			m.Name = strings.Repeat("name", 10)[:r.Intn(41)]
			m.Comment = strings.Repeat("word ", 8)[:r.Intn(41)]
			m.Extra = randomText(r, r.Intn(41))
		}
		w.Name, w.Comment, w.Extra = m.Name, m.Comment, []byte(m.Extra)
		if m.Extra == "" {
			w.Extra = nil
		}
		w.Write([]byte(m.Data))
		w.Close()
		members = append(members, m)
	}
	return b.String(), members
}

func TestUnzipByOther(t *testing.T) {
	r := rand.New(rand.NewSource(13))
	for i := range 400 {
		text, want := zippedByOther(r, 1+i%8)
		if len(text) <= 4000 {
			checkUnzip(t, "by another program", text, 6000, want)
		}
	}
}

// TestUnzipSpoilt: whatever is made of a text, an error that is met with some
// bytes is met with more, too; and what is read, another program reads, too.
func TestUnzipSpoilt(t *testing.T) {
	r := rand.New(rand.NewSource(14))
	met := map[gunz.Errno]int{}
	for range 3000 {
		whole, _ := zippedByOther(r, 1+r.Intn(3))
		text := []byte(whole)
		for range 1 + r.Intn(3) {
			at := r.Intn(len(text))
			if r.Intn(2) == 0 {
				at = r.Intn(12)
			}
			text[at] ^= 1 << r.Intn(8)
		}
		text = text[:len(text)-r.Intn(2)*r.Intn(len(text))]
		data := string(text[:min(len(text), 4000)])
		got, errno := gunz.Unzip(data, 900)
		met[errno]++
		checkBeginnings(t, r, data, errno)
		if errno == gunz.OK {
			checkOther(t, data, got)
		}
	}
	for errno := gunz.ErrShort; errno <= gunz.ErrSum; errno++ {
		if met[errno] == 0 {
			t.Errorf("error %d was never met: %v", errno, met)
		}
	}
}

func checkBeginnings(t *testing.T, r *rand.Rand, data string, errno gunz.Errno) {
	t.Helper()
	for range 10 {
		cut := r.Intn(len(data) + 1)
		got, ahead := gunz.Unzip(data[:cut], 900)
		if (got == nil) != (ahead != gunz.OK) {
			t.Fatalf("P1: Unzip(%q): %v beside %d", data[:cut], got, ahead)
		}
		if ahead != errno && ahead != gunz.ErrShort && ahead != gunz.OK {
			t.Fatalf("P13: Unzip of %q: %d, but of its first %d bytes %d", data, errno, cut, ahead)
		}
	}
}

func checkOther(t *testing.T, data string, got []gunz.Member) {
	t.Helper()
	source := strings.NewReader(data)
	z, err := gzip.NewReader(source)
	if err != nil {
		t.Fatalf("P13: Unzip(%q) = %.40v, another program: %v", data, got, err)
	}
	for i, m := range got {
		if i > 0 {
			err = z.Reset(source)
		}
		z.Multistream(false)
		all, readErr := io.ReadAll(z)
		if err != nil || readErr != nil || string(all) != m.Data || string(z.Extra) != m.Extra {
			t.Fatalf("P13: Unzip(%q) = %.40v, another program: %q, %v, %v", data, got, all, err, readErr)
		}
	}
	if source.Len() != 0 {
		t.Fatalf("P13: Unzip(%q) = %.40v, another program leaves %d bytes", data, got, source.Len())
	}
}
