package gunz_test

import (
	"bytes"
	"compress/flate"
	"io"
	"math"
	"math/rand"
	"slices"
	"strings"
	"testing"

	"gunz/gunz"
)

func checkInflate(t *testing.T, name, data string, limit int, out string, begun int, errno gunz.Errno) {
	t.Helper()
	gotOut, gotBegun, gotErrno := gunz.Inflate(data, limit)
	if gotOut != out || gotBegun != begun || gotErrno != errno {
		t.Errorf("P4: %s: Inflate(%.40q, %d) = %.40q (%d bytes), %d, %d, want %.40q (%d bytes), %d, %d",
			name, data, limit, gotOut, len(gotOut), gotBegun, gotErrno, out, len(out), begun, errno)
	}
}

// checkBits: bits make out, whatever stands behind them.
func checkBits(t *testing.T, name, bits, out string) {
	t.Helper()
	data := packBits(bits)
	checkInflate(t, name, data, len(out), out, len(data), gunz.OK)
	checkInflate(t, name+", and more", data+"\xff\x00", 6000, out, len(data), gunz.OK)
	if out != "" {
		checkInflate(t, name+", limit", data, len(out)-1, "", 0, gunz.ErrLimit)
	}
}

// aheadBy answers for each n a block of kind 1 that ends so that n bits more
// end with a byte, and how many bytes it puts out.
func aheadBy() (bits [8]string, bytes [8]int) {
	for n := range 8 {
		block := fixed(false, strings.Repeat("\xff", n)) // of 9 bits each
		rest := 7 - (len(block)+7)%8
		bits[rest], bytes[rest] = block, n
	}
	return bits, bytes
}

// cuts answers what Inflate tells of bits that are cut at each place: they lie
// behind a small block by which the cut falls on the end of a byte.
func cuts(bits string, limit int) []gunz.Errno {
	ahead, bytes := aheadBy()
	var told []gunz.Errno
	for cut := range len(bits) + 1 {
		n := cut % 8
		_, _, errno := gunz.Inflate(packBits(ahead[n]+bits[:cut]), min(6000, bytes[n]+limit))
		told = append(told, errno)
	}
	return told
}

// checkMet: errno is met with the first at bits, and not with fewer.
func checkMet(t *testing.T, name, bits string, at, limit int, errno gunz.Errno) {
	t.Helper()
	for cut, told := range cuts(bits, limit) {
		want := gunz.ErrShort
		if cut >= at {
			want = errno
		}
		if told != want {
			t.Errorf("P4: %s: with %d bits: %d, want %d (met with %d of %d)", name, cut, told, want, at, len(bits))
		}
	}
}

// checkMetAtEnd: errno is met with all of bits, whatever stands behind them.
func checkMetAtEnd(t *testing.T, name, bits string, errno gunz.Errno) {
	t.Helper()
	checkMet(t, name, bits+"1011001110001111", len(bits), 6000, errno)
}

func TestInflateKinds(t *testing.T) {
	c := fixedCodes()
	for _, text := range []string{"", "a", "hello, hello", "\x00\x8f\x90\xff", strings.Repeat("\xfe", 300)} {
		checkBits(t, "kind 0", stored("", true, text), text)
		checkBits(t, "kind 1", fixed(true, text), text)
	}
	all := make([]byte, 256)
	for i := range all {
		all[i] = byte(i)
	}
	checkBits(t, "all bytes by kind 1", fixed(true, string(all)), string(all))

	symbols := lengthsWith(286, map[int]int{'a': 2, 'b': 3, 'c': 3, 256: 2, 257: 3, 285: 3})
	distances := lengthsWith(30, map[int]int{0: 2, 1: 2, 2: 2, 4: 2})
	own := ownCodes(symbols, distances)
	text := own.bytes("abc") + own.again(3, 3) + own.again(258, 1) + own.again(3, 6) + own.end()
	out := "abcabc" + strings.Repeat("c", 258) + "ccc"
	checkBits(t, "kind 2", ownHead(true, symbols, distances)+text, out)

	several := fixed(false, "first") + ownHead(false, symbols, distances) + text
	several = stored(several, false, "third") + ownHead(false, symbols, distances) + own.bytes("b") + own.end()
	several = stored(several, false, "") + head(true, 1) + c.again(5, 6) + c.bytes("!") + c.end()
	checkBits(t, "several blocks", several, "first"+out+"thirdbthird!")
}

// TestInflateStoredPlaces: what is left of the byte at hand is passed over,
// wherever the block begins, and nothing where nothing is left.
func TestInflateStoredPlaces(t *testing.T) {
	for n := range 8 {
		ahead := strings.Repeat("\xff", n)
		checkBits(t, "kind 0 behind kind 1", stored(fixed(false, ahead), true, "text"), ahead+"text")
	}
}

func TestInflateCopies(t *testing.T) {
	c := fixedCodes()
	for symbol, from := range lengthsFrom {
		for _, more := range []int{0, 1<<lengthsBits[symbol] - 1, 1 << lengthsBits[symbol] / 3} {
			bits := head(true, 1) + c.bytes("xy") + c.symbols[257+symbol] + number(more, lengthsBits[symbol]) + c.distance(2) + c.end()
			checkBits(t, "a length", bits, strings.Repeat("xy", 200)[:2+from+more])
		}
	}
	r := rand.New(rand.NewSource(5))
	noise := make([]byte, 3000)
	r.Read(noise)
	bits := stored("", false, string(noise)) + head(false, 1)
	out := string(noise)
	for len(out) < 5900 {
		n := min(258, 5900-len(out))
		bits += c.again(n, 3000)
		out += out[len(out)-3000:][:n]
	}
	bits += c.end()
	for symbol, from := range distancesFrom {
		for _, more := range []int{0, 1<<distancesBits[symbol] - 1, 1 << distancesBits[symbol] / 3} {
			far := from + more
			last := bits + head(true, 1) + c.length(3) + c.distances[symbol] + number(more, distancesBits[symbol]) + c.end()
			if far > len(out) {
				checkInflate(t, "a distance too far", packBits(last), 6000, "", 0, gunz.ErrFar)
				continue
			}
			whole := out
			for range 3 {
				whole += whole[len(whole)-far:][:1]
			}
			checkBits(t, "a distance", last, whole)
		}
	}
}

// TestInflateSelfCopies: a copy that goes on into itself.
func TestInflateSelfCopies(t *testing.T) {
	c := fixedCodes()
	for distance := 1; distance <= 9; distance++ {
		for _, length := range []int{3, 4, 10, 257, 258} {
			text := "123456789"
			out := text + strings.Repeat(text[9-distance:], 258)[:length]
			checkBits(t, "a copy into itself", head(true, 1)+c.bytes(text)+c.again(length, distance)+c.end(), out)
		}
	}
}

func TestInflateBounds(t *testing.T) {
	full := packBits(stored("", true, strings.Repeat("x", 3995)))
	checkInflate(t, "MaxData", full, 6000, strings.Repeat("x", 3995), 4000, gunz.OK)
	checkInflate(t, "one beyond MaxData", full+"x", 6000, "", 0, gunz.ErrLong)
	checkInflate(t, "one beyond MaxData, behind the end", "\x03\x00"+strings.Repeat("x", 3999), 6000, "", 0, gunz.ErrLong)
	checkInflate(t, "MaxData, behind the end", "\x03\x00"+strings.Repeat("x", 3998), 6000, "", 2, gunz.OK)
	for _, limit := range []int{-1, 6001, math.MinInt, math.MaxInt} {
		checkInflate(t, "limit", "\x03\x00", limit, "", 0, gunz.ErrRange)
		checkInflate(t, "limit ahead of the data", "\x07", limit, "", 0, gunz.ErrRange)
		checkInflate(t, "limit and no data", "", limit, "", 0, gunz.ErrRange)
		checkInflate(t, "limit and too much data", full+"x", limit, "", 0, gunz.ErrLong)
	}
	for _, limit := range []int{0, 6000} {
		checkInflate(t, "limit", "\x03\x00", limit, "", 2, gunz.OK)
	}

	c := fixedCodes()
	bits := head(true, 1) + c.bytes("y") + strings.Repeat(c.again(258, 1), 23)
	most := bits + c.again(65, 1)
	checkInflate(t, "MaxOut", packBits(most+c.end()), 6000, strings.Repeat("y", 6000), len(packBits(most+c.end())), gunz.OK)
	checkInflate(t, "MaxOut, limit", packBits(most+c.end()), 5999, "", 0, gunz.ErrLimit)
	checkInflate(t, "one beyond MaxOut", packBits(most+c.bytes("y")+c.end()), 6000, "", 0, gunz.ErrLimit)
	checkInflate(t, "one beyond MaxOut by a copy", packBits(bits+c.again(66, 1)+c.end()), 6000, "", 0, gunz.ErrLimit)
}

// TestInflateLastByte: the last byte counts if a single bit of it was taken.
func TestInflateLastByte(t *testing.T) {
	seen := map[int]bool{}
	for n := range 16 {
		text := strings.Repeat("\xff", n)
		bits := fixed(true, text)
		seen[len(bits)%8] = true
		want := (len(bits) + 7) / 8
		checkInflate(t, "the last byte", packBits(bits), 100, text, want, gunz.OK)
		checkInflate(t, "the last byte, and more", packBits(bits+"1111111111111111"), 100, text, want, gunz.OK)
	}
	if len(seen) != 8 {
		t.Errorf("the last bits seen: %v", seen)
	}
}

// TestInflateCutEverywhere: a block of each kind that is cut at any bit is
// too short, and whole it is not.
func TestInflateCutEverywhere(t *testing.T) {
	symbols := lengthsWith(270, map[int]int{'a': 1, 'b': 3, 256: 3, 257: 3, 269: 3})
	distances := lengthsWith(6, map[int]int{0: 1, 5: 1})
	own := ownCodes(symbols, distances)
	c := fixedCodes()
	for name, bits := range map[string]string{
		"kind 1": head(true, 1) + c.bytes("abc\xc8") + c.again(100, 3) + c.again(3, 70) + c.end(),
		"kind 2": ownHead(true, symbols, distances) + own.bytes("aab") + own.again(21, 1) + own.again(3, 8) + own.end(),
	} {
		checkMet(t, name, bits, len(bits), 6000, gunz.OK)
	}
	for n := range 8 {
		ahead := fixed(false, strings.Repeat("\xff", n))
		data := packBits(stored(ahead, true, "some text"))
		for cut := range len(data) {
			checkInflate(t, "kind 0, cut", data[:cut], 100, "", 0, gunz.ErrShort)
		}
	}
}

func TestInflateNoBlock(t *testing.T) {
	checkInflate(t, "no data", "", 10, "", 0, gunz.ErrShort)
	checkMetAtEnd(t, "kind 3", head(false, 3), gunz.ErrBlock)
	checkMetAtEnd(t, "kind 3, the last", head(true, 3), gunz.ErrBlock)
	checkMet(t, "nothing behind a block", fixed(false, "text"), 10000, 6000, gunz.OK)
}

func TestInflateStoredWrong(t *testing.T) {
	for bit := range 32 {
		bits := []byte(number(5, 16) + number(65535-5, 16))
		bits[bit] ^= 1
		data := packBits("10000000" + string(bits))
		for cut := range len(data) {
			checkInflate(t, "kind 0, cut", data[:cut], 100, "", 0, gunz.ErrShort)
		}
		checkInflate(t, "kind 0, wrong numbers", data, 100, "", 0, gunz.ErrStored)
		checkInflate(t, "kind 0, wrong numbers, and more", data+"hello", 100, "", 0, gunz.ErrStored)
	}
}

func TestInflateSizesWrong(t *testing.T) {
	for l := range 32 {
		for d := range 32 {
			bits := head(true, 2) + number(l, 5) + number(d, 5) + number(0, 4)
			if l > 29 || d > 29 {
				checkMetAtEnd(t, "l or d", bits, gunz.ErrCode)
				continue
			}
			data := packBits(bits)
			checkInflate(t, "l and d", data, 100, "", 0, gunz.ErrShort)
		}
	}
}

func TestInflateTellingLengths(t *testing.T) {
	for _, c := range []struct {
		name    string
		lengths map[int]int
		right   bool
	}{
		{"none", nil, false},
		{"a single one", map[int]int{0: 1}, false},
		{"two of length 1", map[int]int{0: 1, 18: 1}, true},
		{"one too few", map[int]int{0: 2, 8: 2, 18: 2}, false},
		{"one too many", map[int]int{0: 1, 8: 1, 18: 1}, false},
		{"one of length 7 too many", map[int]int{0: 1, 8: 1, 18: 7}, false},
		{"of all lengths", map[int]int{0: 1, 8: 2, 7: 3, 18: 4, 17: 5, 16: 6, 9: 7, 6: 7}, true},
		{"of all lengths but one", map[int]int{0: 1, 8: 2, 7: 3, 18: 4, 17: 5, 16: 6, 9: 7}, false},
	} {
		bits := head(true, 2) + sizes(257, 1, 19) + tellingCode(lengthsWith(19, c.lengths), 19)
		if !c.right {
			checkMetAtEnd(t, c.name, bits, gunz.ErrCode)
			continue
		}
		checkMet(t, c.name, bits, len(bits)+1, 100, gunz.OK)
	}
	for n := 4; n <= 19; n++ {
		// Of 18 and 0 alone: all of those that are not told have no code.
		bits := head(true, 2) + sizes(257, 1, n) + tellingCode(lengthsWith(19, map[int]int{0: 1, 18: 1}), n)
		checkMet(t, "not all told", bits, len(bits)+1, 100, gunz.OK)
	}
}

// ownWith answers a block's bits up to the last of the tellings.
func ownWith(symbols, distances int, tellings []telling) string {
	return head(true, 2) + sizes(symbols, distances, 19) + tellingCode(tellingLengths(), 19) + told(tellingLengths(), tellings)
}

func TestInflateTellings(t *testing.T) {
	own := ownCodes(lengthsWith(257, map[int]int{0: 1, 256: 1}), []int{0})
	text := own.bytes("\x00\x00") + own.end()
	for _, c := range []struct {
		name      string
		distances int
		tellings  []telling
	}{
		{"by 17 and 18", 1, []telling{{1, 0}, {18, 127}, {18, 92}, {17, 0}, {17, 7}, {0, 0}, {1, 0}, {0, 0}}},
		{"by 16", 1, []telling{{1, 0}, {0, 0}, {16, 0}, {16, 3}, {18, 0}, {18, 127}, {18, 85}, {1, 0}, {0, 0}}},
		{"16 behind 17", 1, []telling{{1, 0}, {17, 0}, {16, 3}, {18, 127}, {18, 97}, {1, 0}, {0, 0}}},
		{"all distances by 18", 30, []telling{{1, 0}, {18, 127}, {18, 106}, {1, 0}, {18, 19}}},
	} {
		checkBits(t, c.name, ownWith(257, c.distances, c.tellings)+text, "\x00\x00")
	}

	// A telling that goes on from the symbols into the distances: 256 and
	// the distances 0 to 2 have length 2.
	symbols := lengthsWith(257, map[int]int{0: 2, 1: 2, 2: 2, 256: 2})
	over := ownWith(257, 4, []telling{{2, 0}, {2, 0}, {2, 0}, {18, 127}, {18, 104}, {2, 0}, {16, 1}})
	checkBits(t, "by 16 into the distances", over+ownCodes(symbols, repeated(2, 4)).bytes("\x00\x01\x02")+codesOf(symbols)[256], "\x00\x01\x02")
	over = ownWith(258, 2, []telling{{1, 0}, {18, 127}, {18, 106}, {1, 0}, {17, 0}})
	checkBits(t, "by 17 into the distances", over+text, "\x00\x00")
}

func TestInflateTellingsWrong(t *testing.T) {
	for more := range 4 {
		checkMetAtEnd(t, "16 as the first", ownWith(257, 1, []telling{{16, more}}), gunz.ErrCode)
	}
	ahead := []telling{{18, 127}, {18, 106}} // 255 of 258 or so
	for _, c := range []struct {
		name      string
		distances int
		wrong     telling
	}{
		{"16, one too many", 2, telling{16, 2}},
		{"16, all too many", 2, telling{16, 3}},
		{"17, one too many", 2, telling{17, 2}},
		{"17, many too many", 2, telling{17, 7}},
		{"18, one too many", 8, telling{18, 0}},
		{"18, many too many", 1, telling{18, 127}},
	} {
		checkMetAtEnd(t, c.name, ownWith(257, c.distances, append(ahead[:2:2], c.wrong)), gunz.ErrCode)
	}
}

// TestInflateOneLengthTooMany: all the lengths would be right but for the last.
func TestInflateOneLengthTooMany(t *testing.T) {
	two := []telling{{1, 0}, {18, 127}, {18, 106}, {1, 0}}
	four := []telling{{2, 0}, {2, 0}, {2, 0}, {18, 127}, {18, 104}, {2, 0}, {2, 0}}
	for _, c := range []struct {
		name      string
		ahead     []telling
		distances int
		last      telling
	}{
		{"16", four, 4, telling{16, 0}},
		{"17", two, 3, telling{17, 0}},
		{"17 of the most", two, 10, telling{17, 7}},
		{"18", two, 11, telling{18, 0}},
		{"18 of many", two, 30, telling{18, 19}},
	} {
		tellings := slices.Concat(c.ahead, []telling{c.last})
		bits := ownWith(257, c.distances, tellings)
		checkMet(t, c.name+", just as many", bits, len(bits)+1, 100, gunz.OK)
		checkMetAtEnd(t, c.name+", one too many", ownWith(257, c.distances-1, tellings), gunz.ErrCode)
	}
}

func TestInflateLengths(t *testing.T) {
	two := map[int]int{'a': 1, 256: 1}
	deep := map[int]int{'a': 15, 256: 15}
	for n := 1; n <= 14; n++ {
		deep[n] = n
	}
	for _, c := range []struct {
		name      string
		symbols   map[int]int
		distances []int
		right     bool
	}{
		{"two symbols", two, []int{0}, true},
		{"no end", map[int]int{'a': 1, 'b': 1}, []int{0}, false},
		{"no symbol", nil, []int{0}, false},
		{"the end alone", map[int]int{256: 1}, []int{0}, false},
		{"too few", map[int]int{'a': 2, 'b': 2, 256: 2}, []int{0}, false},
		{"too many", map[int]int{'a': 1, 'b': 1, 256: 1}, []int{0}, false},
		{"too many, the last of length 15", map[int]int{'a': 1, 'b': 1, 256: 15}, []int{0}, false},
		{"of all lengths", deep, []int{0}, true},
		{"no distance of 30", two, repeated(0, 30), true},
		{"a single distance", two, []int{1}, true},
		{"a single distance, the last", two, append(repeated(0, 29), 1), true},
		{"a single distance of length 2", two, []int{0, 2}, false},
		{"a single distance of length 15", two, []int{15}, false},
		{"two distances", two, []int{1, 0, 1}, true},
		{"two distances of length 2", two, []int{2, 2}, false},
		{"distances too few", two, []int{1, 2}, false},
		{"distances too many", two, []int{1, 1, 1}, false},
		{"distances too many, the last of length 15", two, []int{1, 1, 15}, false},
		{"distances of all lengths", two, []int{1, 2, 3, 4, 5, 6, 7, 8, 9, 10, 11, 12, 13, 14, 15, 15}, true},
		{"distances of all lengths but one", two, []int{1, 2, 3, 4, 5, 6, 7, 8, 9, 10, 11, 12, 13, 14, 15}, false},
	} {
		symbols := lengthsWith(257, c.symbols)
		bits := ownHead(true, symbols, c.distances)
		if !c.right {
			checkMet(t, c.name, bits, len(bits), 100, gunz.ErrCode)
			continue
		}
		own := ownCodes(symbols, c.distances)
		checkBits(t, c.name, bits+own.bytes("aaa")+own.end(), "aaa")
		checkMet(t, c.name, bits+own.end(), len(bits+own.end()), 100, gunz.OK)
	}
}

func TestInflateNoSymbol(t *testing.T) {
	c := fixedCodes()
	ahead := head(true, 1) + c.bytes("ab")
	for _, symbol := range []int{286, 287} {
		checkMetAtEnd(t, "a length", ahead+c.symbols[symbol], gunz.ErrSymbol)
	}
	for _, symbol := range []int{30, 31} {
		checkMetAtEnd(t, "a distance", ahead+c.length(3)+c.distances[symbol], gunz.ErrSymbol)
		checkMetAtEnd(t, "a distance behind more bits", ahead+c.length(257)+c.distances[symbol], gunz.ErrSymbol)
	}
}

func TestInflateFewDistances(t *testing.T) {
	symbols := lengthsWith(286, map[int]int{'a': 2, 256: 2, 257: 2, 265: 2})
	none := ownCodes(symbols, []int{0})
	ahead := ownHead(true, symbols, []int{0}) + none.bytes("a")
	checkMetAtEnd(t, "no distance", ahead+none.length(3), gunz.ErrSymbol)
	checkMetAtEnd(t, "no distance behind more bits", ahead+none.length(12), gunz.ErrSymbol)

	for distance := range 30 {
		distances := append(repeated(0, distance), 1)
		one := ownCodes(symbols, distances)
		ahead := ownHead(true, symbols, distances) + one.bytes("a")
		checkMetAtEnd(t, "not the single distance", ahead+one.length(3)+"1", gunz.ErrSymbol)
		bits := ahead + one.length(3) + "0" + number(0, distancesBits[distance])
		if distance > 0 {
			checkInflate(t, "the single distance, too far", packBits(bits), 100, "", 0, gunz.ErrFar)
		}
		if distancesFrom[distance] > 8 { // more than cuts puts out ahead
			checkMetAtEnd(t, "the single distance, too far", bits, gunz.ErrFar)
		}
		if distance > 0 {
			continue
		}
		checkBits(t, "the single distance", bits+one.end(), "aaaa")
	}
}

func TestInflateFar(t *testing.T) {
	c := fixedCodes()
	// (behind what cuts lays ahead: up to 7 bytes)
	for _, distance := range []int{11, 12, 13, 300, 32768} {
		checkMetAtEnd(t, "too far", head(true, 1)+c.bytes("abc")+c.again(3, distance), gunz.ErrFar)
	}
	for n := range 300 {
		bits := stored("", false, strings.Repeat("z", n)) + head(true, 1)
		checkInflate(t, "one too far", packBits(bits+c.again(3, n+1)+c.end()), 6000, "", 0, gunz.ErrFar)
		if n > 0 {
			checkBits(t, "just so far", bits+c.again(3, n)+c.end(), strings.Repeat("z", n+3))
		}
	}
}

func TestInflateLimit(t *testing.T) {
	c := fixedCodes()
	ahead := head(true, 1) + c.bytes("abc")
	checkMet(t, "a byte", ahead+c.bytes("d")+c.end(), len(ahead+c.bytes("d")), 3, gunz.ErrLimit)
	checkMet(t, "a copy", ahead+c.again(20, 3)+c.end(), len(ahead+c.again(20, 3)), 22, gunz.ErrLimit)
	checkMet(t, "a copy up to the limit", ahead+c.again(20, 3)+c.end(), len(ahead+c.again(20, 3)+c.end()), 23, gunz.OK)
	data := packBits(stored("", true, "abc"))
	for limit := range 3 {
		// Ahead of the byte being put out: the byte must be there.
		checkInflate(t, "bytes of kind 0, cut", data[:5+limit], limit, "", 0, gunz.ErrShort)
		checkInflate(t, "bytes of kind 0", data[:6+limit], limit, "", 0, gunz.ErrLimit)
	}
}

func TestInflateFirstMet(t *testing.T) {
	c := fixedCodes()
	ahead := head(false, 1) + c.bytes("abc")
	for _, one := range []struct {
		name, bits string
		errno      gunz.Errno
	}{
		{"too far and over the limit", ahead + c.again(9, 4), gunz.ErrFar},
		{"no distance and over the limit", ahead + c.length(9) + c.distances[30], gunz.ErrSymbol},
		{"no length and over the limit", ahead + c.symbols[286] + c.bytes("d"), gunz.ErrSymbol},
		{"over the limit, then too far", ahead + c.bytes("d") + c.again(3, 5), gunz.ErrLimit},
		{"over the limit, then no symbol", ahead + c.again(3, 1) + c.symbols[287], gunz.ErrLimit},
		{"over the limit, then short", ahead + c.bytes("d"), gunz.ErrLimit},
		{"the end, then kind 3", ahead + c.end() + head(true, 3), gunz.ErrBlock},
		{"kind 3, then over the limit", ahead + c.end() + head(true, 3) + c.bytes("d"), gunz.ErrBlock},
		{"no symbol, then kind 3", ahead + c.symbols[286] + c.end() + head(true, 3), gunz.ErrSymbol},
		{"wrong numbers and over the limit", stored(ahead+c.end(), true, "d")[:len(stored(ahead+c.end(), true, ""))-1] + "0" + allBits("d"), gunz.ErrStored},
	} {
		checkInflate(t, one.name, packBits(one.bits), 3, "", 0, one.errno)
	}
}

func randomText(r *rand.Rand, n int) string {
	var b strings.Builder
	for b.Len() < n {
		if s := b.String(); len(s) > 0 && r.Intn(4) == 0 {
			i := r.Intn(len(s))
			b.WriteString(s[i:min(len(s), i+r.Intn(260))])
		} else {
			b.WriteByte(byte(r.Intn([]int{2, 20, 256}[r.Intn(3)])))
		}
	}
	return b.String()[:n]
}

func packedByOther(r *rand.Rand, text string) string {
	var b bytes.Buffer
	w, _ := flate.NewWriter(&b, []int{0, 1, 6, 9, -2}[r.Intn(5)])
	for len(text) > 0 {
		n := 1 + r.Intn(len(text))
		w.Write([]byte(text[:n]))
		text = text[n:]
		if r.Intn(2) == 0 {
			w.Flush()
		}
	}
	w.Close()
	return b.String()
}

// TestInflateSpoilt: whatever is made of data, the answer is an error and
// nothing else, or what another program makes of it too.
func TestInflateSpoilt(t *testing.T) {
	r := rand.New(rand.NewSource(7))
	met := map[gunz.Errno]int{}
	for range 6000 {
		data := []byte(packedByOther(r, randomText(r, r.Intn(700))))
		for range r.Intn(4) {
			data[r.Intn(len(data))] ^= 1 << r.Intn(8)
		}
		out, begun, errno := gunz.Inflate(string(data), 650)
		met[errno]++
		if errno != gunz.OK {
			if out != "" || begun != 0 {
				t.Fatalf("P1: Inflate(%q): %d beside %q, %d", data, errno, out, begun)
			}
			continue
		}
		source := bytes.NewReader(data)
		want, err := io.ReadAll(flate.NewReader(source))
		if err != nil || string(want) != out || begun != len(data)-source.Len() {
			t.Fatalf("P4: Inflate(%q) = %q, %d, want %q (%v), %d", data, out, begun, want, err, len(data)-source.Len())
		}
	}
	for _, errno := range []gunz.Errno{gunz.OK, gunz.ErrShort, gunz.ErrBlock, gunz.ErrStored, gunz.ErrCode, gunz.ErrSymbol, gunz.ErrFar, gunz.ErrLimit} {
		if met[errno] == 0 {
			t.Errorf("error %d was never met", errno)
		}
	}
}
