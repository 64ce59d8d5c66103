package packed

// Tables keeps the tables that were asked for last. Make it by NewTables.
type Tables struct {
	most  int
	made  int
	asked int // how often a table was asked for
	kept  map[Lengths]keptTable
}

type keptTable struct {
	table *table
	asked int // what Tables.asked was when it was asked for last
}

// NewTables makes Tables that keep at most so many.
func NewTables(most int) *Tables {
	return &Tables{most: most, kept: map[Lengths]keptTable{}}
}

// Made answers how many tables were made.
func (t *Tables) Made() int {
	return t.made
}

// Drop gives all tables up.
func (t *Tables) Drop() {
	clear(t.kept)
}

// ask answers the table of lengths that are right.
func (t *Tables) ask(lengths Lengths) *table {
	t.asked++
	one, found := t.kept[lengths]
	if !found {
		one.table = makeTable(lengths)
		t.made++
	}
	one.asked = t.asked
	t.kept[lengths] = one
	if len(t.kept) > t.most {
		t.giveUpOldest()
	}
	return one.table
}

// giveUpOldest gives up the one that was asked for longest ago. No two were
// asked for at the same time, so it does not matter in which order they come.
func (t *Tables) giveUpOldest() {
	var oldest Lengths
	ahead := t.asked + 1
	for lengths, one := range t.kept {
		if one.asked < ahead {
			oldest, ahead = lengths, one.asked
		}
	}
	delete(t.kept, oldest)
}
