package packed

const (
	longestCode   = 15
	symbolCount   = 288
	distanceCount = 32
)

// Lengths are those of all the symbols, and behind them those of all the
// distances. It is an array, so that a table can be found by it.
type Lengths [symbolCount + distanceCount]uint8

// fixedLengths are those of a block of kind 1.
func fixedLengths() Lengths {
	var l Lengths
	for i := range l {
		switch {
		case i <= 143:
			l[i] = 8
		case i <= 255:
			l[i] = 9
		case i <= 279:
			l[i] = 7
		case i < symbolCount:
			l[i] = 8
		default:
			l[i] = 5
		}
	}
	return l
}

// check tells what keeps the lengths from being those of a block of kind 2.
func (l *Lengths) check() error {
	symbols, distances := l[:symbolCount], l[symbolCount:]
	switch {
	case l[endOfBlock] == 0:
		return &Fault{"the end of the block", ErrCode}
	case !complete(symbols):
		return &Fault{"the symbols' lengths", ErrCode}
	case !complete(distances) && !fewDistances(distances):
		return &Fault{"the distances' lengths", ErrCode}
	}
	return nil
}

// share adds up 1 / 2^length over the symbols that have a code; as whole
// numbers, in parts of which whole makes 1.
func share(lengths []uint8) int {
	sum := 0
	for _, n := range lengths {
		if n > 0 {
			sum += whole >> n
		}
	}
	return sum
}

const whole = 1 << longestCode

func complete(lengths []uint8) bool {
	return share(lengths) == whole
}

// fewDistances tells whether the lengths are all 0, or a single 1 among zeros.
func fewDistances(lengths []uint8) bool {
	sum := 0
	for _, n := range lengths {
		sum += int(n)
	}
	return sum <= 1
}

// code is what symbols are read by: how many codes there are of each length,
// and whose they are, ordered by length and then by number.
type code struct {
	count   [longestCode + 1]int
	symbols []int
	longest int
}

func makeCode(lengths []uint8) code {
	var c code
	for _, n := range lengths {
		if n > 0 {
			c.count[n]++
			c.longest = max(c.longest, int(n))
		}
	}
	var place [longestCode + 2]int
	for n, count := range c.count {
		place[n+1] = place[n] + count
	}
	c.symbols = make([]int, place[longestCode+1])
	for symbol, n := range lengths {
		if n > 0 {
			c.symbols[place[n]] = symbol
			place[n]++
		}
	}
	return c
}

// word is a symbol's code, as a number whose highest bit comes first.
type word struct {
	bits   int
	length int
}

// wordsOf answers the codes of all symbols; that of one without a code has
// length 0.
func wordsOf(lengths []uint8) []word {
	words := make([]word, len(lengths))
	next := word{}
	for _, symbol := range makeCode(lengths).symbols {
		longer := int(lengths[symbol]) - next.length
		next = word{next.bits << longer, next.length + longer}
		words[symbol] = next
		next.bits++
	}
	return words
}

// table is what a block of kind 1 or 2 is read by.
type table struct {
	symbols   code
	distances code
}

func makeTable(l Lengths) *table {
	return &table{
		symbols:   makeCode(l[:symbolCount]),
		distances: makeCode(l[symbolCount:]),
	}
}
