package packed

import (
	"math/rand"
	"slices"
	"strings"
	"testing"
)

func bitsBy(counts []int, lengths []uint8) int {
	bits := 0
	for symbol, count := range counts {
		bits += count * int(lengths[symbol])
	}
	return bits
}

// leastBits tries all complete lengths, none above longest.
func leastBits(counts []int, longest int) int {
	least := -1
	lengths := make([]uint8, len(counts))
	var try func(at int)
	try = func(at int) {
		if at == len(counts) {
			if bits := bitsBy(counts, lengths); complete(lengths) && (least < 0 || bits < least) {
				least = bits
			}
			return
		}
		for n := 1; n <= longest; n++ {
			lengths[at] = uint8(n)
			try(at + 1)
		}
	}
	try(0)
	return least
}

func TestBestLengths(t *testing.T) {
	r := rand.New(rand.NewSource(20))
	for range 300 {
		counts := make([]int, 2+r.Intn(5))
		most := []int{2, 9, 100}[r.Intn(3)]
		for i := range counts {
			counts[i] = 1 + r.Intn(most)
		}
		for longest := 3; longest <= 5; longest++ {
			lengths := bestLengths(counts, longest)
			if !complete(lengths) || int(slices.Max(lengths)) > longest {
				t.Fatalf("%v: %v are not complete, or above %d", counts, lengths, longest)
			}
			if bits, least := bitsBy(counts, lengths), leastBits(counts, longest); bits != least {
				t.Fatalf("%v: %v need %d bits, want %d", counts, lengths, bits, least)
			}
		}
	}
}

func fibonacci(n int) []int {
	list := []int{1, 1}
	for len(list) < n {
		list = append(list, list[len(list)-1]+list[len(list)-2])
	}
	return list[:n]
}

// TestBestLengthsDeep: where the lengths would be longer, but may not.
func TestBestLengthsDeep(t *testing.T) {
	for n := 2; n <= 40; n++ {
		for longest := 6; longest <= longestCode; longest++ {
			lengths := bestLengths(fibonacci(n), longest)
			if got := int(slices.Max(lengths)); got != min(n-1, longest) || !complete(lengths) {
				t.Errorf("%d symbols: lengths up to %d, want %d: %v", n, got, min(n-1, longest), lengths)
			}
		}
	}
}

func TestBestLengthsFew(t *testing.T) {
	for _, c := range []struct {
		counts []int
		want   []uint8
	}{
		{nil, []uint8{}},
		{[]int{0, 0}, []uint8{0, 0}},
		{[]int{0, 7, 0}, []uint8{0, 1, 0}},
		{[]int{5, 0, 1}, []uint8{1, 0, 1}},
		{[]int{5, 0, 1, 1}, []uint8{1, 0, 2, 2}},
	} {
		if got := bestLengths(c.counts, longestCode); !slices.Equal(got, c.want) {
			t.Errorf("%v: %v, want %v", c.counts, got, c.want)
		}
	}
}

// TestBestLengthsMany: as many symbols as there can be, and all of them rare.
func TestBestLengthsMany(t *testing.T) {
	counts := slices.Repeat([]int{1}, 1<<longestTold)
	for _, length := range bestLengths(counts, longestTold) {
		if length != longestTold {
			t.Fatalf("a length is %d, want %d", length, longestTold)
		}
	}
}

func lengthsFrom(symbols, distances map[int]uint8) *Lengths {
	var l Lengths
	for symbol, length := range symbols {
		l[symbol] = length
	}
	for symbol, length := range distances {
		l[symbolCount+symbol] = length
	}
	return &l
}

func TestTellings(t *testing.T) {
	same := map[int]uint8{}
	for symbol := range endOfBlock + 1 {
		same[symbol] = 9
	}
	for _, c := range []struct {
		name    string
		lengths *Lengths
		want    []telling
	}{
		{"zeros", lengthsFrom(map[int]uint8{0: 1, 256: 1}, nil),
			[]telling{{1, 0}, {18, 127}, {18, 106}, {1, 0}, {0, 0}}},
		{"10 zeros", lengthsFrom(map[int]uint8{10: 1, 149: 2, 256: 2}, map[int]uint8{2: 1}),
			[]telling{{17, 7}, {1, 0}, {18, 127}, {2, 0}, {18, 95}, {2, 0}, {0, 0}, {0, 0}, {1, 0}}},
		{"11 zeros, and more than are told at once", lengthsFrom(map[int]uint8{11: 1, 151: 2, 256: 2}, map[int]uint8{3: 1}),
			[]telling{{18, 0}, {1, 0}, {18, 127}, {0, 0}, {2, 0}, {18, 93}, {2, 0}, {17, 0}, {1, 0}}},
		{"three more, and two more", lengthsFrom(map[int]uint8{0: 3, 1: 3, 2: 3, 3: 3, 4: 2, 5: 2, 6: 2, 256: 3}, nil),
			[]telling{{3, 0}, {16, 0}, {2, 0}, {2, 0}, {2, 0}, {18, 127}, {18, 100}, {3, 0}, {0, 0}}},
		{"the same", lengthsFrom(same, map[int]uint8{0: 9, 1: 9, 2: 9, 3: 1}),
			append(append([]telling{{9, 0}}, slices.Repeat([]telling{{16, 3}}, 43)...), telling{9, 0}, telling{1, 0})},
	} {
		symbols, distances := upToLast(c.lengths[:symbolCount]), max(1, upToLast(c.lengths[symbolCount:]))
		if got := tellingsOf(c.lengths, symbols, distances); !slices.Equal(got, c.want) {
			t.Errorf("%s: %v, want %v", c.name, got, c.want)
		}
	}
}

// TestTellingSizes: no more is told than up to the last that is not 0.
func TestTellingSizes(t *testing.T) {
	all := map[int]uint8{}
	for symbol := 1; symbol <= endOfBlock; symbol++ {
		all[symbol] = 8
	}
	for _, c := range []struct {
		name    string
		lengths *Lengths
		want    [3]int
	}{
		{"few", lengthsFrom(map[int]uint8{0: 1, 256: 1}, nil), [3]int{257, 1, 18}},
		{"many", lengthsFrom(all, nil), [3]int{257, 1, 5}},
		{"distances", lengthsFrom(map[int]uint8{285: 1, 256: 1}, map[int]uint8{29: 1}), [3]int{286, 30, 18}},
	} {
		var w writer
		w.codes(c.lengths)
		r := &Reader{data: w.data}
		if got := [3]int{r.number(5) + 257, r.number(5) + 1, r.number(4) + 4}; got != c.want {
			t.Errorf("%s: %v, want %v", c.name, got, c.want)
		}
	}
}

// TestTellingsBack: the lengths that are written are those that are read.
func TestTellingsBack(t *testing.T) {
	r := rand.New(rand.NewSource(21))
	for range 500 {
		lengths := someLengths(r)
		if lengths.check() != nil {
			t.Fatal("the test's lengths are not right")
		}
		var w writer
		w.codes(lengths)
		reader := NewReader(0, NewTables(1))
		reader.data = w.data
		if err := reader.codes(); err != nil {
			t.Fatalf("%v: %v", lengths, err)
		}
		if reader.at != w.bits || reader.tables.kept[*lengths].table == nil {
			t.Fatalf("%v: other lengths are read, or %d of %d bits", lengths, reader.at, w.bits)
		}
	}
}

// someLengths answers lengths that are right.
func someLengths(r *rand.Rand) *Lengths {
	var symbols [mostSymbols]int
	var distances [mostDistances]int
	symbols[endOfBlock] = 1
	symbols[r.Intn(endOfBlock)] = 1
	for range r.Intn(400) {
		symbols[r.Intn(mostSymbols)] += 1 << r.Intn(14)
		distances[r.Intn(1+r.Intn(mostDistances))] += r.Intn(3) << r.Intn(14)
	}
	var lengths Lengths
	copy(lengths[:], bestLengths(symbols[:], longestCode))
	copy(lengths[symbolCount:], bestLengths(distances[:], longestCode))
	return &lengths
}

func TestLengthsTelling(t *testing.T) {
	var tellings []telling
	for symbol, count := range fibonacci(19) {
		tellings = append(tellings, slices.Repeat([]telling{{symbol: symbol}}, count)...)
	}
	if lengths := lengthsTelling(tellings); slices.Max(lengths) != 7 || !complete(lengths) {
		t.Errorf("the lengths %v are above 7 or not complete", lengths)
	}
}

// TestWords: the codes that are written are those that are read.
func TestWords(t *testing.T) {
	r := rand.New(rand.NewSource(22))
	for range 200 {
		lengths := someLengths(r)
		words := wordsOf(lengths[:symbolCount])
		read := makeCode(lengths[:symbolCount])
		for symbol, one := range words {
			if one.length != int(lengths[symbol]) {
				t.Fatalf("symbol %d: a code of %d bits, want %d", symbol, one.length, lengths[symbol])
			}
			if one.length == 0 {
				continue
			}
			var w writer
			w.word(one)
			reader := &Reader{data: w.data}
			if got, err := reader.symbol(&read); got != symbol || err != nil || reader.at != one.length {
				t.Fatalf("symbol %d is read as %d: %v", symbol, got, err)
			}
		}
	}
}

// TestPack: a block is read again, and is the last one.
func TestPack(t *testing.T) {
	for _, plain := range []string{"", "a", sample(), strings.Repeat("xyz", 400), strings.Repeat("\x00", 5000)} {
		for kind := range 3 {
			data := Pack(plain, kind)
			r := NewReader(len(plain), NewTables(0))
			if out, err := r.Read(data); out != plain || err != nil || r.Begun() != len(data) {
				t.Errorf("%.20q, kind %d: %.20q, %d of %d bytes: %v", plain, kind, out, r.Begun(), len(data), err)
			}
			if data[0]&7 != byte(kind<<1|1) {
				t.Errorf("%.20q, kind %d: the block begins with %d", plain, kind, data[0]&7)
			}
		}
	}
}
