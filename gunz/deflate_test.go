package gunz_test

import (
	"compress/flate"
	"fmt"
	"io"
	"math"
	"math/rand"
	"slices"
	"strings"
	"testing"

	"gunz/gunz"
)

func TestDeflateErrors(t *testing.T) {
	for _, n := range []int{0, 1, 1499, 1500, 1501, 4000, 4001, 70000} {
		for _, kind := range []int{math.MinInt, -1, 0, 1, 2, 3, 4, 258, math.MaxInt} {
			want := gunz.OK
			switch {
			case kind < 0 || kind > 2:
				want = gunz.ErrRange
			case n > 1500:
				want = gunz.ErrLong
			}
			out, errno := gunz.Deflate(strings.Repeat("a", n), kind)
			if errno != want || (out == "") != (want != gunz.OK) {
				t.Errorf("P10: Deflate(%d bytes, %d) = %.40q, %d, want %d", n, kind, out, errno, want)
			}
		}
	}
}

// part is a byte alone (length 0), or a length with its distance.
type part struct {
	value            byte
	length, distance int
}

// alone answers each byte of text by itself.
func alone(text string) []part {
	var parts []part
	for i := range len(text) {
		parts = append(parts, part{value: text[i]})
	}
	return parts
}

func again(length, distance int) []part { return []part{{length: length, distance: distance}} }

// partsOf looks for ever more bytes, as long as they are found, and from the
// end on: so what it finds last is the longest, and of these the nearest.
func partsOf(plain string) []part {
	var parts []part
	for at := 0; at < len(plain); {
		one := part{value: plain[at]}
		for n := 3; n <= min(258, len(plain)-at); n++ {
			from := strings.LastIndex(plain[:at+n-1], plain[at:at+n])
			if from < 0 {
				break
			}
			one = part{length: n, distance: at - from}
		}
		parts = append(parts, one)
		at += max(1, one.length)
	}
	return parts
}

// parts answers the bits of parts, and the end of the block.
func (c codes) parts(parts []part) string {
	var b strings.Builder
	for _, one := range parts {
		if one.length > 0 {
			b.WriteString(c.again(one.length, one.distance))
		} else {
			b.WriteString(c.symbols[one.value])
		}
	}
	return b.String() + c.end()
}

// source gives bits out, one behind the other.
type source struct{ rest string }

func (s *source) number(n int) int {
	sum := 0
	for i := range n {
		sum |= int(s.rest[i]-'0') << i
	}
	s.rest = s.rest[n:]
	return sum
}

func (s *source) symbol(codes []string) int {
	for symbol, code := range codes {
		if code != "" && strings.HasPrefix(s.rest, code) {
			s.rest = s.rest[len(code):]
			return symbol
		}
	}
	panic("the bits are no symbol")
}

// toldBy answers the lengths that a block of kind 2 tells, and how many bits it
// needs for that.
func toldBy(data string) (symbols, distances []int, bits int) {
	all := allBits(data)
	s := &source{all[3:]}
	l, d, c := s.number(5)+257, s.number(5)+1, s.number(4)+4
	telling := make([]int, 19)
	for _, symbol := range tellingOrder[:c] {
		telling[symbol] = s.number(3)
	}
	codes := codesOf(telling)
	var lengths []int
	for len(lengths) < l+d {
		switch symbol := s.symbol(codes); symbol {
		case 16:
			lengths = append(lengths, repeated(lengths[len(lengths)-1], s.number(2)+3)...)
		case 17:
			lengths = append(lengths, repeated(0, s.number(3)+3)...)
		case 18:
			lengths = append(lengths, repeated(0, s.number(7)+11)...)
		default:
			lengths = append(lengths, symbol)
		}
	}
	return lengths[:l], lengths[l:], len(all) - len(s.rest)
}

// checkDeflate holds the answers of all kinds against the parts of plain.
func checkDeflate(t *testing.T, name, plain string, parts []part) {
	t.Helper()
	for kind := range 3 {
		out, errno := gunz.Deflate(plain, kind)
		if errno != gunz.OK {
			t.Errorf("P10: %s: kind %d: %d", name, kind, errno)
			continue
		}
		checkPlainAgain(t, fmt.Sprint(name, ": kind ", kind), out, plain)
		var want string
		switch kind {
		case 0:
			want = "10000000" + number(len(plain), 16) + number(65535-len(plain), 16) + allBits(plain)
		case 1:
			want = head(true, 1) + fixedCodes().parts(parts)
		case 2:
			symbols, distances, bits := toldBy(out)
			want = head(true, 2) + allBits(out)[3:bits] + ownCodes(symbols, distances).parts(parts)
			checkFewest(t, name, parts, symbols, distances)
		}
		if out != packBits(want) {
			t.Errorf("P10, P11: %s: kind %d: %.60q, want %.60q", name, kind, out, packBits(want))
		}
	}
}

// checkPlainAgain: this program and another one make plain of out.
func checkPlainAgain(t *testing.T, name, out, plain string) {
	t.Helper()
	back, begun, errno := gunz.Inflate(out, len(plain))
	if back != plain || begun != len(out) || errno != gunz.OK {
		t.Errorf("P10: %s: Inflate of %d bytes: %.40q, %d begun, %d", name, len(out), back, begun, errno)
	}
	other, err := io.ReadAll(flate.NewReader(strings.NewReader(out)))
	if string(other) != plain || err != nil {
		t.Errorf("P10: %s: another program: %.40q, %v", name, other, err)
	}
}

// fewestBits adds up what the two rarest come to, taken together again and
// again: so many bits symbols need that come so often, at the least.
func fewestBits(counts []int) int {
	var list []int
	for _, count := range counts {
		if count > 0 {
			list = append(list, count)
		}
	}
	if len(list) == 1 {
		return list[0]
	}
	bits := 0
	for len(list) > 1 {
		slices.Sort(list)
		both := list[0] + list[1]
		bits += both
		list = append(list[2:], both)
	}
	return bits
}

// checkFewest: what the parts need by the lengths is the least (P12).
func checkFewest(t *testing.T, name string, parts []part, symbols, distances []int) {
	t.Helper()
	symbolCounts, distanceCounts := make([]int, 286), make([]int, 30)
	symbolCounts[256]++
	for _, one := range parts {
		if one.length > 0 {
			symbolCounts[257+lastUpTo(lengthsFrom, one.length)]++
			distanceCounts[lastUpTo(distancesFrom, one.distance)]++
		} else {
			symbolCounts[one.value]++
		}
	}
	bits := 0
	for symbol, length := range symbols {
		bits += length * symbolCounts[symbol]
	}
	for symbol, length := range distances {
		bits += length * distanceCounts[symbol]
	}
	if want := fewestBits(symbolCounts) + fewestBits(distanceCounts); bits != want {
		t.Errorf("P12: %s: %d bits, want %d", name, bits, want)
	}
}

func TestDeflateParts(t *testing.T) {
	long := randomBytes(rand.New(rand.NewSource(10)), 600, 256)
	for _, c := range []struct {
		plain string
		parts []part
	}{
		{"", nil},
		{"a", alone("a")},
		{"aa", alone("aa")},
		{"aaa", alone("aaa")}, // 2 are the same from the first place on
		{"aaaa", append(alone("a"), again(3, 1)...)},
		{"abab", alone("abab")},
		{"ababa", append(alone("ab"), again(3, 2)...)},
		{"abcabc", append(alone("abc"), again(3, 3)...)},
		{"abxaby", alone("abxaby")},
		{"\x00\x00\x00\x00\xff", slices.Concat(alone("\x00"), again(3, 1), alone("\xff"))},
		// of the same length, the nearest
		{"abc1abc2abc", slices.Concat(alone("abc1"), again(3, 4), alone("2"), again(3, 4))},
		// the longest, not the nearest
		{"abcd1abc2abcd", slices.Concat(alone("abcd1"), again(3, 5), alone("2"), again(4, 9))},
		// the first that is found, even if a byte alone would let more be found behind it
		{"abc1bcdef2abcdef", slices.Concat(alone("abc1bcdef2"), again(3, 10), again(3, 7))},
		// a place within what was a length
		{"aaaab1aaab", slices.Concat(alone("a"), again(3, 1), alone("b1"), again(4, 5))},
		{"abcdeabcde1bcdea2", slices.Concat(alone("abcde"), again(5, 5), alone("1"), again(5, 10), alone("2"))},
		// up to 258
		{strings.Repeat("a", 258), append(alone("a"), again(257, 1)...)},
		{strings.Repeat("a", 259), append(alone("a"), again(258, 1)...)},
		{strings.Repeat("a", 260), slices.Concat(alone("a"), again(258, 1), alone("a"))},
		{strings.Repeat("a", 261), slices.Concat(alone("a"), again(258, 1), alone("aa"))},
		{strings.Repeat("a", 262), slices.Concat(alone("a"), again(258, 1), again(3, 1))},
		{strings.Repeat("ab", 131), slices.Concat(alone("ab"), again(258, 2), alone("ab"))},
		{long + long, slices.Concat(alone(long), again(258, 600), again(258, 600), again(84, 600))},
	} {
		checkDeflate(t, fmt.Sprintf("%.20q", c.plain), c.plain, c.parts)
		if got := partsOf(c.plain); !slices.Equal(got, c.parts) {
			t.Errorf("the test divides %.20q into %v, want %v", c.plain, got, c.parts)
		}
	}
}

// randomBytes answers n bytes, each below values.
func randomBytes(r *rand.Rand, n, values int) string {
	text := make([]byte, n)
	for i := range text {
		text[i] = byte(r.Intn(values))
	}
	return string(text)
}

// TestDeflateLengths: each length and each distance, where both can be.
func TestDeflateLengths(t *testing.T) {
	filler := randomBytes(rand.New(rand.NewSource(11)), 1500, 200)
	for n := 3; n <= 258; n++ {
		text := filler[:n] + "\xf0" + filler[:n] + "\xf1"
		checkDeflate(t, fmt.Sprint("length ", n), text, partsOf(text))
	}
	for distance := 4; distance <= 1496; distance += 1 + distance/40 {
		text := "\xf0\xf1\xf2\xf3" + filler[:distance-4] + "\xf0\xf1\xf2\xf3"
		parts := partsOf(text)
		if last := parts[len(parts)-1]; last != again(4, distance)[0] {
			t.Fatalf("the test's text for distance %d ends with %v", distance, last)
		}
		checkDeflate(t, fmt.Sprint("distance ", distance), text, parts)
	}
}

// byFibonacci answers a text whose bytes come 1, 1, 2, 3, 5 and so on times:
// the codes are as long as they can be.
func byFibonacci(r *rand.Rand) string {
	var text []byte
	for a, b, value := 1, 1, byte(0); len(text)+a <= 1500; a, b, value = b, a+b, value+1 {
		text = append(text, strings.Repeat(string([]byte{value}), a)...)
	}
	r.Shuffle(len(text), func(i, j int) { text[i], text[j] = text[j], text[i] })
	return string(text)
}

// withRepeats answers n bytes, in part copies of what is ahead.
func withRepeats(r *rand.Rand, n, values int) string {
	text := ""
	for len(text) < n {
		if from := r.Intn(len(text) + 1); r.Intn(2) == 0 {
			text += text[from:min(len(text), from+r.Intn(300))]
		}
		text += randomBytes(r, r.Intn(9), values)
	}
	return text[:n]
}

func TestDeflateTexts(t *testing.T) {
	r := rand.New(rand.NewSource(12))
	check := func(name, text string) {
		t.Helper()
		checkDeflate(t, name, text, partsOf(text))
	}
	for b := range 256 {
		check(fmt.Sprint("byte ", b), string([]byte{byte(b)}))
	}
	for n := range 20 {
		check(fmt.Sprint("bytes by Fibonacci ", n), byFibonacci(r))
	}
	for i := range 250 {
		values := []int{1, 2, 3, 8, 60, 256}[i%6]
		n := []int{1500, 1499, r.Intn(1501), r.Intn(40)}[i%4]
		check(fmt.Sprintf("%d bytes of %d", n, values), randomBytes(r, n, values))
		check(fmt.Sprintf("%d bytes of %d with repeats", n, values), withRepeats(r, n, values))
	}
	for n := range 1501 {
		if n < 300 || n%50 == 0 {
			check(fmt.Sprint(n, " times the same"), strings.Repeat("a", n))
		}
	}
}

// TestDeflateShort: all texts of a few bytes out of two or three.
func TestDeflateShort(t *testing.T) {
	for values, most := range map[int]int{2: 9, 3: 6} {
		for n := range most + 1 {
			for i := range int(math.Pow(float64(values), float64(n))) {
				text := make([]byte, n)
				for k := range text {
					text[k] = 'a' + byte(i%values)
					i /= values
				}
				checkDeflate(t, string(text), string(text), partsOf(string(text)))
			}
		}
	}
}

// TestDeflateFewDistances: no distance has no code, and a single one one bit.
func TestDeflateFewDistances(t *testing.T) {
	for _, c := range []struct {
		plain     string
		distances []int
	}{
		{"", nil},
		{"abc", nil},
		{"aaaa", []int{1}},
		{strings.Repeat("a", 1500), []int{1}},
		{"abcabc", []int{0, 0, 1}},
		{"abc12345abc1", []int{0, 0, 0, 0, 0, 1}}, // 8 back: 7 and a bit
		{"aaaa" + "bcdbcd", []int{1, 0, 1}},
	} {
		out, _ := gunz.Deflate(c.plain, 2)
		_, distances, _ := toldBy(out)
		for len(distances) > 0 && distances[len(distances)-1] == 0 {
			distances = distances[:len(distances)-1]
		}
		if !slices.Equal(distances, c.distances) {
			t.Errorf("P12: %.20q: the distances' lengths are %v, want %v", c.plain, distances, c.distances)
		}
	}
}
