package gunz

import "gunz/packed"

// Decoder reads packed data in pieces. Make it by New.
type Decoder struct {
	tables *packed.Tables
	reader *packed.Reader // nil where nothing more is read
	room   int            // bytes that the pieces to come may have
	begun  int            // what End answers beside OK
	told   Errno          // what End tells; ErrShort as long as more is read
}

// New makes a decoder (P5).
func New(cache int) *Decoder {
	return &Decoder{
		tables: packed.NewTables(min(max(cache, 0), maxCache)),
		told:   ErrEnded,
	}
}

// Begin puts a decoder to the beginning of packed data (P5).
func (d *Decoder) Begin(limit int) Errno {
	if !mayPutOut(limit) {
		return ErrRange
	}
	d.reader = packed.NewReader(limit, d.tables)
	d.room = maxData
	d.begun = 0
	d.told = ErrShort
	return OK
}

// Feed reads a piece (P6).
func (d *Decoder) Feed(piece string) (string, Errno) {
	if d.reader == nil {
		return "", ErrEnded
	}
	if len(piece) > d.room {
		d.stop(ErrLong)
		return "", ErrLong
	}
	d.room -= len(piece)
	out, err := d.reader.Read(piece)
	met := toldAs(err)
	switch met {
	case ErrShort:
		return out, OK
	case OK:
		d.begun = d.reader.Begun()
	}
	d.stop(met)
	return out, met
}

// stop keeps what End tells, and lets go of what reading alone needs.
func (d *Decoder) stop(told Errno) {
	d.reader = nil
	d.told = told
}

// End tells how the data ended (P7).
func (d *Decoder) End() (int, Errno) { return d.begun, d.told }

// Made tells how many tables were made (P9).
func (d *Decoder) Made() int { return d.tables.Made() }

// Drop gives all tables up (P9).
func (d *Decoder) Drop() { d.tables.Drop() }
