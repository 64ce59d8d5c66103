package packed

const (
	endOfBlock    = 256
	firstLength   = 257
	lastLength    = 285
	lastDistance  = 29
	mostSymbols   = 286 // that a block of kind 2 tells lengths of
	mostDistances = 30
)

// tellingOrder is the order in which the lengths of those symbols come by
// which the other lengths are told.
var tellingOrder = [19]int{16, 17, 18, 0, 8, 7, 9, 6, 10, 5, 11, 4, 12, 3, 13, 2, 14, 1, 15}

// lengthFrom and distanceFrom are what the bits behind a symbol are added to.
var lengthFrom = [29]int{
	3, 4, 5, 6, 7, 8, 9, 10, 11, 13, 15, 17, 19, 23, 27, 31,
	35, 43, 51, 59, 67, 83, 99, 115, 131, 163, 195, 227, 258,
}

var distanceFrom = [30]int{
	1, 2, 3, 4, 5, 7, 9, 13, 17, 25, 33, 49, 65, 97, 129, 193, 257, 385, 513, 769,
	1025, 1537, 2049, 3073, 4097, 6145, 8193, 12289, 16385, 24577,
}

// lengthBits answers how many bits stand behind a length's symbol.
func lengthBits(symbol int) int {
	if symbol <= 264 || symbol == lastLength {
		return 0
	}
	return (symbol - 261) / 4
}

// distanceBits answers how many bits stand behind a distance's symbol.
func distanceBits(symbol int) int {
	if symbol <= 3 {
		return 0
	}
	return symbol/2 - 1
}

// goOn reads on from where the reader stands: a head, or the rest of a block.
func (r *Reader) goOn() error {
	switch r.place {
	case atHead:
		return r.head()
	case atSizes:
		if err := r.sizes(); err != nil {
			return err
		}
		fallthrough
	case atBytes:
		return r.storedBytes()
	case atCodes:
		if err := r.codes(); err != nil {
			return err
		}
		fallthrough
	case atSymbols:
		return r.symbols()
	}
	return nil
}

func (r *Reader) head() error {
	r.begin = r.at
	last := r.number(1) == 1
	switch r.number(2) {
	case 0:
		r.place = atSizes
	case 1:
		r.table = makeTable(fixedLengths())
		r.place = atSymbols
	case 2:
		r.place = atCodes
	default:
		return &Fault{"a block's head", ErrBlock}
	}
	r.last = last
	return nil
}

func (r *Reader) endBlock() {
	r.table = nil
	r.place = atHead
	if r.last {
		r.place = atEnd
	}
}

func (r *Reader) sizes() error {
	r.begin = r.at
	r.at = 8 * bytesBegun(r.at)
	size := r.number(16)
	if r.number(16) != 65535-size {
		return &Fault{"a block of kind 0", ErrStored}
	}
	r.left = size
	r.place = atBytes
	return nil
}

func (r *Reader) storedBytes() error {
	for r.left > 0 {
		r.begin = r.at
		if err := r.put(byte(r.number(8))); err != nil {
			return err
		}
		r.left--
	}
	r.endBlock()
	return nil
}

func (r *Reader) codes() error {
	r.begin = r.at
	symbols := r.number(5) + 257
	distances := r.number(5) + 1
	tellings := r.number(4) + 4
	if symbols > mostSymbols || distances > mostDistances {
		return &Fault{"how many lengths there are", ErrCode}
	}
	telling, err := r.tellingCode(tellings)
	if err != nil {
		return err
	}
	told, err := r.toldLengths(&telling, symbols+distances)
	if err != nil {
		return err
	}
	var lengths Lengths
	copy(lengths[:symbolCount], told[:symbols])
	copy(lengths[symbolCount:], told[symbols:])
	if err := lengths.check(); err != nil {
		return err
	}
	r.table = r.tables.ask(lengths)
	r.place = atSymbols
	return nil
}

// tellingCode takes the lengths of the first n symbols by which the other
// lengths are told.
func (r *Reader) tellingCode(n int) (code, error) {
	var lengths [19]uint8
	for i := range n {
		lengths[tellingOrder[i]] = uint8(r.number(3))
	}
	if !complete(lengths[:]) {
		return code{}, &Fault{"the lengths that tell lengths", ErrCode}
	}
	return makeCode(lengths[:]), nil
}

// toldLengths takes count lengths.
func (r *Reader) toldLengths(telling *code, count int) ([]uint8, error) {
	told := make([]uint8, 0, mostSymbols+mostDistances)
	for len(told) < count {
		symbol, err := r.symbol(telling)
		if err != nil {
			return nil, err
		}
		length, times := r.run(symbol)
		if symbol == sameAgain {
			if len(told) == 0 {
				return nil, &Fault{"the first length", ErrCode}
			}
			length = told[len(told)-1]
		}
		if len(told)+times > count {
			return nil, &Fault{"the last length", ErrCode}
		}
		for range times {
			told = append(told, length)
		}
	}
	return told, nil
}

// run takes the bits behind a symbol that tells lengths, and answers which
// length it tells (for 16, which hangs on the one before: 0) and how often.
func (r *Reader) run(symbol int) (uint8, int) {
	bits, least := behindTelling(symbol)
	times := r.number(bits) + least
	if symbol >= sameAgain {
		return 0, times
	}
	return uint8(symbol), times
}

func (r *Reader) symbols() error {
	for r.place == atSymbols {
		r.begin = r.at
		symbol, err := r.symbol(&r.table.symbols)
		if err != nil {
			return err
		}
		if err := r.obey(symbol); err != nil {
			return err
		}
	}
	return nil
}

// obey does what a symbol says.
func (r *Reader) obey(symbol int) error {
	switch {
	case symbol < endOfBlock:
		return r.put(byte(symbol))
	case symbol == endOfBlock:
		r.endBlock()
		return nil
	case symbol <= lastLength:
		return r.repeat(symbol)
	}
	return &Fault{"a length", ErrSymbol}
}

// repeat puts bytes out again. Each is looked for only when it is put out,
// since a copy may go on into itself.
func (r *Reader) repeat(symbol int) error {
	length := lengthFrom[symbol-firstLength] + r.number(lengthBits(symbol))
	distance, err := r.distance()
	if err != nil {
		return err
	}
	if distance > len(r.out) {
		return &Fault{"a distance", ErrFar}
	}
	for range length {
		if err := r.put(r.out[len(r.out)-distance]); err != nil {
			return err
		}
	}
	return nil
}

func (r *Reader) distance() (int, error) {
	symbol, err := r.symbol(&r.table.distances)
	if err != nil {
		return 0, err
	}
	if symbol > lastDistance {
		return 0, &Fault{"a distance", ErrSymbol}
	}
	return distanceFrom[symbol] + r.number(distanceBits(symbol)), nil
}
