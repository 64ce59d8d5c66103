package gunz_test

import (
	"math"
	"math/rand"
	"slices"
	"strings"
	"testing"

	"gunz/gunz"
)

// begun answers a decoder at the beginning of packed data.
func begun(t *testing.T, cache, limit int) *gunz.Decoder {
	t.Helper()
	d := gunz.New(cache)
	begin(t, d, limit)
	return d
}

func begin(t *testing.T, d *gunz.Decoder, limit int) {
	t.Helper()
	if errno := d.Begin(limit); errno != gunz.OK {
		t.Errorf("P5: Begin(%d) = %d", limit, errno)
	}
}

func checkFeed(t *testing.T, name string, d *gunz.Decoder, piece, out string, errno gunz.Errno) {
	t.Helper()
	gotOut, gotErrno := d.Feed(piece)
	if gotOut != out || gotErrno != errno {
		t.Errorf("P6: %s: Feed(%.40q) = %.40q (%d bytes), %d, want %.40q (%d bytes), %d",
			name, piece, gotOut, len(gotOut), gotErrno, out, len(out), errno)
	}
}

// checkEnd: End answers so, as often as it is asked.
func checkEnd(t *testing.T, name string, d *gunz.Decoder, begun int, errno gunz.Errno) {
	t.Helper()
	for range 2 {
		if gotBegun, gotErrno := d.End(); gotBegun != begun || gotErrno != errno {
			t.Errorf("P7: %s: End() = %d, %d, want %d, %d", name, gotBegun, gotErrno, begun, errno)
		}
	}
}

// checkStopped: nothing more is read.
func checkStopped(t *testing.T, name string, d *gunz.Decoder, begun int, errno gunz.Errno) {
	t.Helper()
	for _, piece := range []string{"", "x", "\x03\x00", strings.Repeat("x", 4001)} {
		checkFeed(t, name, d, piece, "", gunz.ErrEnded)
		checkEnd(t, name, d, begun, errno)
	}
}

func TestDecoderAheadOfBegin(t *testing.T) {
	for _, cache := range numbers() {
		d := gunz.New(cache)
		checkStopped(t, "ahead of Begin", d, 0, gunz.ErrEnded)
		for _, limit := range []int{-1, 6001, math.MinInt, math.MaxInt} {
			if errno := d.Begin(limit); errno != gunz.ErrRange {
				t.Errorf("P5: Begin(%d) = %d, want ErrRange", limit, errno)
			}
			checkStopped(t, "behind a refused Begin", d, 0, gunz.ErrEnded)
		}
		for _, limit := range []int{0, 1, 6000} {
			begin(t, d, limit)
			checkEnd(t, "at the beginning", d, 0, gunz.ErrShort)
			checkFeed(t, "at the beginning", d, "\x03\x00", "", gunz.OK)
		}
	}
}

// refused calls Begin with limits that are out of range.
func refused(t *testing.T, d *gunz.Decoder) {
	t.Helper()
	for _, limit := range []int{-1, 6001} {
		if errno := d.Begin(limit); errno != gunz.ErrRange {
			t.Errorf("P5: Begin(%d) = %d, want ErrRange", limit, errno)
		}
	}
}

// TestDecoderRefusedBegin: a Begin that is refused changes nothing.
func TestDecoderRefusedBegin(t *testing.T) {
	d := begun(t, 1, 5)
	for i, piece := range strings.Split("\x01\x05\x00\xfa\xffhello", "") {
		refused(t, d)
		checkFeed(t, "between refused Begins", d, piece, "hello"[max(0, i-5):max(0, i-4)], gunz.OK)
	}
	refused(t, d)
	checkStopped(t, "behind the end and a refused Begin", d, 10, gunz.OK)

	begin(t, d, 4)
	refused(t, d)
	checkFeed(t, "the limit is kept", d, "\x01\x05\x00\xfa\xffhello", "hell", gunz.ErrLimit)
	refused(t, d)
	checkStopped(t, "behind an error and a refused Begin", d, 0, gunz.ErrLimit)

	begin(t, d, 4)
	checkFeed(t, "all that there may be", d, strings.Repeat("\x00\x00\x00\xff\xff", 800), "", gunz.OK)
	refused(t, d)
	checkFeed(t, "one more behind a refused Begin", d, "x", "", gunz.ErrLong)
}

// TestDecoderBegin: at the beginning of packed data, whatever was ahead.
func TestDecoderBegin(t *testing.T) {
	c := fixedCodes()
	own := packBits(ownHead(true, lengthsWith(257, map[int]int{'a': 1, 256: 1}), []int{0}))
	for name, ahead := range map[string]string{
		"nothing":            "",
		"a block's head":     packBits(head(false, 1)),
		"bytes of kind 0":    "\x00\x05\x00\xfa\xffhel",
		"numbers of kind 0":  "\x00\x05\x00\xfa",
		"symbols of kind 1":  packBits(head(false, 1) + c.bytes("hello")),
		"codes of kind 2":    own[:20],
		"symbols of kind 2":  own,
		"the end":            "\x03\x00",
		"the end, and more":  "\x03\x00xxx",
		"an error":           "\x07",
		"an error, behind":   packBits(head(false, 1) + c.bytes("hello") + c.symbols[286]),
		"over the limit":     "\x01\x0a\x00\xf5\xff0123456789",
		"too much":           strings.Repeat("\x00", 4001),
		"all that there may": strings.Repeat("\x00\x00\x00\xff\xff", 800),
	} {
		d := begun(t, 2, 9)
		d.Feed(ahead)
		begin(t, d, 20)
		checkEnd(t, name, d, 0, gunz.ErrShort)
		text := "some text of 20 byte"
		checkFeed(t, name, d, packBits(stored("", true, text)), text, gunz.OK)
		checkStopped(t, name, d, 25, gunz.OK)

		begin(t, d, 6000)
		checkFeed(t, name+", nothing to copy", d, packBits(head(true, 1)+c.again(3, 1)), "", gunz.ErrFar)
		checkStopped(t, name+", nothing to copy", d, 0, gunz.ErrFar)

		begin(t, d, 3)
		checkFeed(t, name+", a limit of its own", d, packBits(fixed(true, "abcd")), "abc", gunz.ErrLimit)

		begin(t, d, 6000)
		full := packBits(stored("", true, strings.Repeat("x", 3995)))
		checkFeed(t, name+", MaxData again", d, full, strings.Repeat("x", 3995), gunz.OK)
		checkEnd(t, name+", MaxData again", d, 4000, gunz.OK)
	}
}

func TestDecoderLong(t *testing.T) {
	empty := strings.Repeat("\x00\x00\x00\xff\xff", 800) // 4000 bytes
	for _, first := range []int{0, 1, 7, 2000, 3999, 4000} {
		d := begun(t, 0, 10)
		checkFeed(t, "the first piece", d, empty[:first], "", gunz.OK)
		checkFeed(t, "MaxData", d, empty[first:], "", gunz.OK)
		checkFeed(t, "nothing more", d, "", "", gunz.OK)
		checkEnd(t, "MaxData", d, 0, gunz.ErrShort)
		checkFeed(t, "one more", d, "x", "", gunz.ErrLong)
		checkStopped(t, "one more", d, 0, gunz.ErrLong)

		begin(t, d, 10)
		checkFeed(t, "the first piece", d, empty[:first], "", gunz.OK)
		checkFeed(t, "one too many", d, empty[first:]+"\x07", "", gunz.ErrLong)
		checkStopped(t, "one too many", d, 0, gunz.ErrLong)
	}

	d := begun(t, 0, 10)
	checkFeed(t, "all that there may be, behind the end", d, "\x03\x00"+strings.Repeat("x", 3998), "", gunz.OK)
	checkStopped(t, "all that there may be, behind the end", d, 2, gunz.OK)
	for name, data := range map[string]string{
		"behind the end":   "\x4b\x04\x00",
		"behind an error":  packBits(fixed(false, "a") + head(true, 3)),
		"beyond the limit": packBits(fixed(true, "0123456789a")),
	} {
		begin(t, d, 10)
		checkFeed(t, "too much, "+name, d, data+strings.Repeat("x", 4001-len(data)), "", gunz.ErrLong)
		checkStopped(t, "too much, "+name, d, 0, gunz.ErrLong)
	}
	begin(t, d, 10)
	checkFeed(t, "bytes are put out", d, "\x00\x08\x00\xf7\xffabcd", "abcd", gunz.OK)
	checkFeed(t, "too much, with bytes in it", d, "efgh"+strings.Repeat("x", 3988), "", gunz.ErrLong)
	checkStopped(t, "too much, with bytes in it", d, 0, gunz.ErrLong)
}

// A step is what stands in the data, and what it puts out.
type step struct{ bits, out string }

type steps []step

func (s steps) bits() string {
	var b strings.Builder
	for _, one := range s {
		b.WriteString(one.bits)
	}
	return b.String()
}

// stored answers s and the steps of a block of kind 0.
func (s steps) stored(last bool, text string) steps {
	first := head(last, 0)
	sizes := stored(s.bits(), last, text)[len(s.bits())+3:]
	s = append(s, step{bits: first}, step{bits: sizes[:len(sizes)-8*len(text)]})
	for _, b := range []byte(text) {
		s = append(s, step{number(int(b), 8), string([]byte{b})})
	}
	return s
}

// symbols answers s and a step for each byte.
func (s steps) symbols(c codes, text string) steps {
	for _, b := range []byte(text) {
		s = append(s, step{c.symbols[b], string([]byte{b})})
	}
	return s
}

// outWith answers what the steps put out whose bits are all there.
func (s steps) outWith(bits int) string {
	out := ""
	for _, one := range s {
		if bits -= len(one.bits); bits < 0 {
			break
		}
		out += one.out
	}
	return out
}

// checkSteps: each piece tells all that can be known with it, in pieces of any
// size.
func checkSteps(t *testing.T, name string, s steps) {
	t.Helper()
	data := packBits(s.bits())
	for size := 1; size <= len(data); size++ {
		d := begun(t, 1, 6000)
		ahead := 0
		for ahead < len(data) {
			n := min(size, len(data)-ahead)
			want := strings.TrimPrefix(s.outWith(8*(ahead+n)), s.outWith(8*ahead))
			checkFeed(t, name, d, data[ahead:ahead+n], want, gunz.OK)
			ahead += n
			if ahead < len(data) {
				checkFeed(t, name+", an empty piece", d, "", "", gunz.OK)
				checkEnd(t, name, d, 0, gunz.ErrShort)
			}
		}
		checkStopped(t, name, d, len(data), gunz.OK)
	}
}

// TestDecoderSteps: blocks of all kinds, beginning at each bit of a byte.
func TestDecoderSteps(t *testing.T) {
	c := fixedCodes()
	symbols := lengthsWith(270, map[int]int{'a': 1, 'b': 3, 256: 3, 257: 3, 269: 3})
	distances := lengthsWith(6, map[int]int{0: 1, 5: 1})
	own := ownCodes(symbols, distances)
	ownFirst := ownHead(false, symbols, distances)
	for n := range 8 {
		s := steps{{bits: head(false, 1)}}.symbols(c, strings.Repeat("\xff", n))
		s = append(s, step{bits: c.end()})

		s = append(s, step{bits: ownFirst[:3]}, step{bits: ownFirst[3:]}).symbols(own, "aabababb")
		s = append(s, step{own.again(3, 7), "aba"}, step{own.again(22, 1), strings.Repeat("a", 22)}, step{bits: own.end()})
		s = s.stored(false, "bytes").stored(false, "")
		s = append(s, step{bits: head(true, 1)}).symbols(c, "\x00\xc8?")
		s = append(s, step{c.again(5, 8), "bytes"}, step{c.again(258, 1), strings.Repeat("s", 258)})
		checkSteps(t, "ended by kind 1", append(slices.Clone(s), step{bits: c.end()}))

		s[len(s)-6].bits = head(false, 1)
		s = append(s, step{bits: c.end()})
		checkSteps(t, "ended by kind 0", s.stored(true, "end"))
		checkSteps(t, "ended by kind 0 of no bytes", s.stored(true, ""))
		s = append(s, step{bits: "1" + ownFirst[1:3]}, step{bits: ownFirst[3:]})
		checkSteps(t, "ended by kind 2", append(s, step{bits: own.end()}))
	}
}

// TestDecoderErrors: an error is met with the piece that has its last bit, and
// what was put out ahead of it is told beside it.
func TestDecoderErrors(t *testing.T) {
	c := fixedCodes()
	text := head(false, 1) + c.bytes("abc")
	sizes := stored(text+c.end(), true, "")
	for _, one := range []struct {
		name, bits, out string
		limit           int
		errno           gunz.Errno
	}{
		{"kind 3", text + c.end() + head(false, 3), "abc", 10, gunz.ErrBlock},
		{"numbers of kind 0", sizes[:len(sizes)-1] + "0", "abc", 10, gunz.ErrStored},
		{"how many lengths", text + c.end() + head(false, 2) + number(30, 5) + number(0, 9), "abc", 10, gunz.ErrCode},
		{"lengths", text + c.end() + ownHead(false, lengthsWith(257, map[int]int{256: 1}), []int{0}), "abc", 10, gunz.ErrCode},
		{"a length", text + c.symbols[287], "abc", 10, gunz.ErrSymbol},
		{"a distance", text + c.length(30) + c.distances[31], "abc", 10, gunz.ErrSymbol},
		{"too far", text + c.again(3, 5), "abc", 10, gunz.ErrFar},
		{"a byte beyond the limit", text + c.bytes("d"), "abc", 3, gunz.ErrLimit},
		{"a byte beyond no limit", head(false, 1) + c.bytes("a"), "", 0, gunz.ErrLimit},
		{"a copy beyond the limit", text + c.again(20, 3), "abcabca", 7, gunz.ErrLimit},
		{"a copy one beyond the limit", text + c.again(20, 3), strings.Repeat("abc", 8)[:22], 22, gunz.ErrLimit},
		{"a copy at the limit", text + c.again(20, 3), "abc", 3, gunz.ErrLimit},
		{"a byte of kind 0 beyond the limit", stored("", true, "abcdefg")[:5*8+4*8], "abc", 3, gunz.ErrLimit},
	} {
		data := packBits(one.bits)
		for size := 1; size <= len(data); size++ {
			checkError(t, one.name, data, size, one.limit, one.out, one.errno)
			checkError(t, one.name+", and more", data+"\xff\x01\x02", size, one.limit, one.out, one.errno)
		}
	}
}

func checkError(t *testing.T, name, data string, size, limit int, out string, errno gunz.Errno) {
	t.Helper()
	d := begun(t, 1, limit)
	at, got := 0, ""
	for {
		n := min(size, len(data)-at)
		more, told := d.Feed(data[at : at+n])
		got += more
		at += n
		if told != gunz.OK {
			if told != errno || got != out {
				t.Errorf("P6: %s: in pieces of %d: %q, %d, want %q, %d", name, size, got, told, out, errno)
			}
			break
		}
		checkEnd(t, name, d, 0, gunz.ErrShort)
		if at == len(data) {
			t.Fatalf("P6: %s: in pieces of %d: not met", name, size)
		}
	}
	checkStopped(t, name, d, 0, errno)
	begin(t, d, limit)
	d.Feed(data[:max(0, at-size)])
	if _, told := d.End(); told != gunz.ErrShort {
		t.Errorf("P6: %s: ahead of the piece: %d", name, told)
	}
}

// TestDecoderBehindTheEnd: bits behind the last block are not looked at.
func TestDecoderBehindTheEnd(t *testing.T) {
	for n := range 8 {
		text := strings.Repeat("\xff", n)
		bits := fixed(true, text)
		for _, behind := range []string{"", "1", "1111111111111111111111", "0110", "00000000000000000000"} {
			d := begun(t, 0, 100)
			checkFeed(t, "behind the end", d, packBits(bits+behind), text, gunz.OK)
			checkStopped(t, "behind the end", d, (len(bits)+7)/8, gunz.OK)
		}
	}
}

// TestDecoderEndChangesNothing: asked between all pieces.
func TestDecoderEndChangesNothing(t *testing.T) {
	r := rand.New(rand.NewSource(11))
	for range 50 {
		text := randomText(r, 300)
		data := packedByOther(r, text)
		d := begun(t, 2, 300)
		out := ""
		for i := range len(data) {
			checkEnd(t, "between pieces", d, 0, gunz.ErrShort)
			more, errno := d.Feed(data[i : i+1])
			if out += more; errno != gunz.OK {
				t.Fatalf("P7: Feed = %d", errno)
			}
		}
		if out != text {
			t.Errorf("P7: %q, want %q", out, text)
		}
		checkEnd(t, "behind the end", d, len(data), gunz.OK)
	}
}

// pieces answers data in pieces of all sizes, 0 among them.
func pieces(r *rand.Rand, data string) []string {
	var list []string
	most := []int{1, 4, 40, 2000}[r.Intn(4)]
	for len(data) > 0 {
		n := min(len(data), r.Intn(most+1))
		list = append(list, data[:n])
		data = data[n:]
	}
	return append(list, "")
}

// feedAll feeds pieces up to the end of the last block, and answers what they
// put out, and the error that was met.
func feedAll(d *gunz.Decoder, list []string) (string, gunz.Errno) {
	out := ""
	for _, piece := range list {
		more, errno := d.Feed(piece)
		out += more
		if errno == gunz.ErrEnded {
			break
		}
		if errno != gunz.OK {
			return out, errno
		}
	}
	return out, gunz.OK
}

// TestPiecesAsWhole holds data in pieces, right or wrong, against Inflate.
func TestPiecesAsWhole(t *testing.T) {
	r := rand.New(rand.NewSource(12))
	met := map[gunz.Errno]int{}
	decoders := []*gunz.Decoder{gunz.New(0), gunz.New(1), gunz.New(5), gunz.New(16)}
	for range 4000 {
		text := randomText(r, r.Intn(700))
		whole := packedByOther(r, text)
		data := []byte(whole)
		if r.Intn(3) == 0 {
			data = data[:r.Intn(len(data)+1)]
		}
		if r.Intn(2) == 0 && len(data) > 0 {
			data[r.Intn(len(data))] ^= 1 << r.Intn(8)
		}
		limit := []int{0, 300, 650, 6000}[r.Intn(4)]
		met[checkAsWhole(t, decoders[r.Intn(4)], string(data), text, strings.HasPrefix(whole, string(data)), limit, pieces(r, string(data)))]++
	}
	for _, errno := range []gunz.Errno{gunz.OK, gunz.ErrShort, gunz.ErrBlock, gunz.ErrStored, gunz.ErrCode, gunz.ErrSymbol, gunz.ErrFar, gunz.ErrLimit} {
		if met[errno] == 0 {
			t.Errorf("error %d was never met", errno)
		}
	}
}

// checkAsWhole answers the error that Inflate tells. If the data are right as
// far as they go, text is what they would put out.
func checkAsWhole(t *testing.T, d *gunz.Decoder, data, text string, right bool, limit int, list []string) gunz.Errno {
	t.Helper()
	want, wantBegun, wantErrno := gunz.Inflate(data, limit)
	begin(t, d, limit)
	out, fed := feedAll(d, list)
	begun, errno := d.End()
	if begun != wantBegun || errno != wantErrno {
		t.Fatalf("P8: %q in %d pieces: End() = %d, %d, want %d, %d", data, len(list), begun, errno, wantBegun, wantErrno)
	}
	if wantErrno == gunz.OK && out != want || right && !strings.HasPrefix(text, out) {
		t.Fatalf("P8: %q in %d pieces: %q, want %q", data, len(list), out, want)
	}
	if wantErrno != gunz.OK && wantErrno != gunz.ErrShort && fed != wantErrno {
		t.Fatalf("P8: %q in %d pieces: Feed tells %d, want %d", data, len(list), fed, wantErrno)
	}
	if one := gunz.New(0); one.Begin(limit) == gunz.OK {
		if all, _ := one.Feed(data); all != out {
			t.Fatalf("P8: %q: in one piece %q, in %d pieces %q", data, all, len(list), out)
		}
	}
	return wantErrno
}

// ownBlock answers a block of kind 2 whose lengths are others for each n from
// 0 to 255, and which puts that byte out.
func ownBlock(last bool, n int) string {
	symbols := lengthsWith(257, map[int]int{n: 1, 256: 1})
	own := ownCodes(symbols, []int{0})
	return ownHead(last, symbols, []int{0}) + own.symbols[n] + own.end()
}

// checkMade: so many were made by feeding bits, in one piece or byte by byte.
func checkMade(t *testing.T, name string, d *gunz.Decoder, bits, out string, made int) {
	t.Helper()
	was := d.Made()
	begin(t, d, 6000)
	if got, errno := feedAll(d, strings.SplitAfter(packBits(bits), "\x00")); got != out || errno != gunz.OK {
		t.Errorf("P9: %s: %q, %d, want %q", name, got, errno, out)
	}
	if d.Made()-was != made {
		t.Errorf("P9: %s: %d were made, want %d", name, d.Made()-was, made)
	}
}

// keptOnes is what a decoder may be held against: the one asked for last stands
// at the end.
type keptOnes struct {
	most, made int
	list       []int
}

func (k *keptOnes) ask(n int) {
	if i := slices.Index(k.list, n); i >= 0 {
		k.list = slices.Delete(k.list, i, i+1)
	} else {
		k.made++
	}
	k.list = append(k.list, n)
	k.list = k.list[max(0, len(k.list)-k.most):]
}

func TestMade(t *testing.T) {
	r := rand.New(rand.NewSource(13))
	var blocks []string
	for n := range 16 + 3 {
		blocks = append(blocks, ownBlock(false, n))
	}
	for _, cache := range []int{math.MinInt, -1, 0, 1, 2, 3, 7, 15, 16, 17, 1000, math.MaxInt} {
		d := gunz.New(cache)
		kept := keptOnes{most: max(0, min(16, cache))}
		if d.Made() != 0 {
			t.Errorf("P9: at the beginning: %d", d.Made())
		}
		for round := range 60 {
			bits, out := "", ""
			for range 1 + r.Intn(5) {
				n := r.Intn(kept.most + 3)
				kept.ask(n)
				bits += blocks[n]
				out += string([]byte{byte(n)})
			}
			begin(t, d, 6000)
			got, errno := feedAll(d, pieces(r, packBits(bits+fixed(true, "!"))))
			if got != out+"!" || errno != gunz.OK || d.Made() != kept.made {
				t.Fatalf("P9: of %d, round %d: %q, %d, %d were made, want %q and %d", cache, round, got, errno, d.Made(), out, kept.made)
			}
			if r.Intn(20) == 0 {
				d.Drop()
				kept.list = nil
				if d.Made() != kept.made {
					t.Errorf("P9: behind Drop: %d were made, want %d", d.Made(), kept.made)
				}
			}
		}
	}
}

// TestMadeRound: as many as it keeps, one behind the other, and one more.
func TestMadeRound(t *testing.T) {
	for _, c := range []struct{ cache, keeps int }{{-7, 0}, {0, 0}, {1, 1}, {15, 15}, {16, 16}, {17, 16}, {5000, 16}} {
		for _, over := range []int{0, 1} {
			d := gunz.New(c.cache)
			for range 3 {
				for n := range c.keeps + over {
					begin(t, d, 10)
					d.Feed(packBits(ownBlock(true, n)))
				}
			}
			want := c.keeps
			if over > 0 {
				want = 3 * (c.keeps + 1)
			}
			if d.Made() != want {
				t.Errorf("P9: New(%d), %d in a round: %d were made, want %d", c.cache, c.keeps+over, d.Made(), want)
			}
		}
	}
}

// TestMadeByWhichLengths: tables are told apart by all their lengths, those of
// the symbols and those of the distances, and by nothing else.
func TestMadeByWhichLengths(t *testing.T) {
	d := gunz.New(16)
	two := map[int]int{'a': 1, 256: 1}
	end := func(symbols map[int]int, count int) string { return codesOf(lengthsWith(count, symbols))[256] }
	own := func(symbols map[int]int, count int, distances ...int) string {
		return ownHead(true, lengthsWith(count, symbols), distances) + end(symbols, count)
	}
	checkMade(t, "two symbols", d, own(two, 257, 0), "", 1)
	checkMade(t, "the same", d, own(two, 257, 0), "", 0)
	checkMade(t, "another symbol", d, own(map[int]int{'b': 1, 256: 1}, 257, 0), "", 1)
	checkMade(t, "another distance", d, own(two, 257, 1), "", 1)
	checkMade(t, "yet another distance", d, own(two, 257, 0, 1), "", 1)
	checkMade(t, "the last distance", d, own(two, 257, append(repeated(0, 29), 1)...), "", 1)
	checkMade(t, "the last symbol", d, own(map[int]int{285: 1, 256: 1}, 286, 0), "", 1)

	// All told lengths are the same ones in the same order: where the
	// distances begin tells them apart.
	four := map[int]int{'a': 2, 'b': 2, 'c': 2, 256: 2}
	checkMade(t, "distances behind 257 symbols", d, own(four, 257, 0, 0, 0, 1, 1), "", 1)
	checkMade(t, "distances behind 259 symbols", d, own(four, 259, 0, 1, 1), "", 1)
	checkMade(t, "the last symbol or the first distance", d, own(map[int]int{'a': 1, 256: 2, 257: 2}, 258, 0, 1), "", 1)
	checkMade(t, "the last symbol or the first distance", d, own(map[int]int{'a': 1, 'b': 2, 256: 2}, 257, 1, 1), "", 1)
	checkMade(t, "asked for the first time", d, own(map[int]int{'a': 1, 256: 2, 258: 2}, 259, 0), "", 1)

	// How the lengths are told does not matter.
	tellings := []telling{{18, 'a' - 11}, {1, 0}, {18, 127}, {18, 255 - 'a' - 138 - 11}, {1, 0}, {0, 0}}
	checkMade(t, "told by 18", d, ownWith(257, 1, tellings)+end(two, 257), "", 0)
	checkMade(t, "symbols without a code told", d, own(two, 286, 0), "", 0)
	checkMade(t, "distances without a code told", d, own(two, 257, repeated(0, 30)...), "", 0)
}

// TestMadeByWhichBlocks: blocks of kind 2 alone, whose lengths are right, and
// each once.
func TestMadeByWhichBlocks(t *testing.T) {
	d := gunz.New(0)
	checkMade(t, "kind 0", d, stored("", true, "abc"), "abc", 0)
	checkMade(t, "kind 1", d, fixed(false, "abc")+fixed(true, "abc"), "abcabc", 0)
	checkMade(t, "kind 2", d, ownBlock(true, 'a'), "a", 1)
	checkMade(t, "kind 2, none is kept", d, ownBlock(true, 'a'), "a", 1)
	checkMade(t, "kind 2, three times", d, ownBlock(false, 'a')+ownBlock(false, 'a')+ownBlock(true, 'a'), "aaa", 3)

	for name, bits := range map[string]string{
		"no end":            ownHead(true, lengthsWith(257, map[int]int{'a': 1, 'b': 1}), []int{0}),
		"not complete":      ownHead(true, lengthsWith(257, map[int]int{'a': 2, 256: 1}), []int{0}),
		"a wrong distance":  ownHead(true, lengthsWith(257, map[int]int{'a': 1, 256: 1}), []int{2}),
		"too many tellings": ownWith(257, 1, []telling{{18, 127}, {18, 127}}),
	} {
		begin(t, d, 10)
		if _, errno := d.Feed(packBits(bits)); errno != gunz.ErrCode || d.Made() != 5 {
			t.Errorf("P9: %s: %d, %d were made", name, errno, d.Made()-5)
		}
	}

	// Up to the last of its lengths nothing is made; from there on it is,
	// whatever comes behind.
	bits := ownHead(true, lengthsWith(257, map[int]int{'a': 1, 256: 1}), []int{0})
	data := packBits(bits)
	begin(t, d, 0)
	for i := range len(data) {
		d.Feed(data[i : i+1])
		if want := 5 + (i+1)/len(data); d.Made() != want {
			t.Errorf("P9: with %d bytes of %d: %d were made, want %d", i+1, len(data), d.Made(), want)
		}
	}
	d.Feed("\x00")
	if _, errno := d.End(); errno != gunz.ErrLimit || d.Made() != 6 {
		t.Errorf("P9: behind the lengths: %d, %d were made", errno, d.Made())
	}
}

// TestDropAndBegin: Drop gives up all that is kept, Begin nothing; in the
// middle of a block too, where the block goes on as before.
func TestDropAndBegin(t *testing.T) {
	d := gunz.New(3)
	d.Drop()
	for n := range 3 {
		checkMade(t, "the first time", d, ownBlock(true, n), string([]byte{byte(n)}), 1)
	}
	refused(t, d)
	for _, limit := range []int{0, 1, 6000} {
		begin(t, d, limit)
	}
	d.Feed("\x07") // an error
	for n := range 3 {
		checkMade(t, "behind Begin", d, ownBlock(true, n), string([]byte{byte(n)}), 0)
	}
	d.Drop()
	d.Drop()
	for n := range 3 {
		checkMade(t, "behind Drop", d, ownBlock(true, n), string([]byte{byte(n)}), 1)
	}

	symbols := lengthsWith(257, map[int]int{'a': 1, 256: 1})
	bits := ownHead(true, symbols, []int{0}) + strings.Repeat(codesOf(symbols)['a'], 80) + codesOf(symbols)[256]
	data := packBits(bits)
	for cache := range 3 {
		d := gunz.New(cache)
		begin(t, d, 80)
		out := ""
		for i := range len(data) {
			d.Drop()
			more, errno := d.Feed(data[i : i+1])
			if out += more; errno != gunz.OK {
				t.Errorf("P9: Drop within a block: %d", errno)
			}
		}
		if out != strings.Repeat("a", 80) || d.Made() != 1 {
			t.Errorf("P9: Drop within a block: %q, %d were made", out, d.Made())
		}
		checkEnd(t, "Drop within a block", d, len(data), gunz.OK)
	}
}

// TestNotSeen: what a decoder keeps is not seen in what Feed and End answer.
func TestNotSeen(t *testing.T) {
	r := rand.New(rand.NewSource(14))
	var list []string
	for range 12 {
		data := []byte(packedByOther(r, randomText(r, 400+r.Intn(300))))
		if r.Intn(3) == 0 {
			data[r.Intn(len(data))] ^= 1 << r.Intn(8)
		}
		list = append(list, string(data))
	}
	decoders := []*gunz.Decoder{gunz.New(0), gunz.New(1), gunz.New(4), gunz.New(16)}
	for range 300 {
		data := list[r.Intn(len(list))]
		parts := pieces(r, data)
		for _, d := range decoders {
			begin(t, d, 600)
		}
		for _, part := range parts {
			out, errno := decoders[0].Feed(part)
			_, end := decoders[0].End()
			for _, d := range decoders[1:] {
				if r.Intn(10) == 0 {
					d.Drop()
				}
				gotOut, gotErrno := d.Feed(part)
				_, gotEnd := d.End()
				if gotOut != out || gotErrno != errno || gotEnd != end {
					t.Fatalf("P9: %q: %q, %d, %d, want %q, %d, %d", data, gotOut, gotErrno, gotEnd, out, errno, end)
				}
			}
		}
	}
}

// TestDecodersShareNothing: two that are used by turns answer as each alone.
func TestDecodersShareNothing(t *testing.T) {
	r := rand.New(rand.NewSource(15))
	one, other := gunz.New(4), gunz.New(4)
	checkMade(t, "one", one, ownBlock(true, 'a'), "a", 1)
	checkMade(t, "the other", other, ownBlock(true, 'a'), "a", 1)
	one.Drop()
	checkMade(t, "the other, behind one's Drop", other, ownBlock(true, 'a'), "a", 0)
	if one.Made() != 1 || other.Made() != 1 {
		t.Errorf("P2: %d and %d were made", one.Made(), other.Made())
	}
	for range 100 {
		texts := []string{randomText(r, 300), randomText(r, 300)}
		data := []string{packedByOther(r, texts[0]), packedByOther(r, texts[1])}
		outs := []string{"", ""}
		decoders := []*gunz.Decoder{one, other}
		begin(t, one, 300)
		begin(t, other, 300)
		at := []int{0, 0}
		for at[0] < len(data[0]) || at[1] < len(data[1]) {
			i := r.Intn(2)
			n := min(r.Intn(30), len(data[i])-at[i])
			more, _ := decoders[i].Feed(data[i][at[i] : at[i]+n])
			outs[i] += more
			at[i] += n
			gunz.Inflate(data[1-i], 300)
		}
		if !slices.Equal(outs, texts) {
			t.Fatalf("P2: %q, want %q", outs, texts)
		}
		checkEnd(t, "one", one, len(data[0]), gunz.OK)
		checkEnd(t, "the other", other, len(data[1]), gunz.OK)
	}
}
