package packed

import (
	"math/rand"
	"slices"
	"testing"
)

// lengthsOf answers lengths that are right, other ones for each n.
func lengthsOf(n int) Lengths {
	var l Lengths
	l[n], l[endOfBlock] = 1, 1
	return l
}

func TestTablesAreTold(t *testing.T) {
	tables := NewTables(2)
	a := tables.ask(lengthsOf(1))
	b := tables.ask(lengthsOf(2))
	if a == b || tables.ask(lengthsOf(1)) != a || tables.ask(lengthsOf(2)) != b {
		t.Error("a table that is kept is used")
	}
	if tables.Made() != 2 {
		t.Errorf("%d were made, want 2", tables.Made())
	}
	if got := tables.ask(lengthsOf(3)); !slices.Equal(got.symbols.symbols, []int{3, 256}) {
		t.Errorf("the symbols are %v", got.symbols.symbols)
	}
	if got := tables.ask(lengthsOf(2)); got != b {
		t.Error("the table that was asked for last but one was given up")
	}
	if got := tables.ask(lengthsOf(1)); got == a {
		t.Error("the table that was asked for longest ago is still kept")
	}
}

// TestTablesByAllLengths: a table is found by each of its lengths.
func TestTablesByAllLengths(t *testing.T) {
	tables := NewTables(1)
	for i := range len(Lengths{}) {
		tables.ask(Lengths{})
		other := Lengths{}
		other[i] = 1
		tables.ask(other)
		if tables.Made() != 2*(i+1) {
			t.Fatalf("length %d is not looked at", i)
		}
	}
}

// TestTablesKept holds the tables against a list, the one asked for last at
// its end.
func TestTablesKept(t *testing.T) {
	r := rand.New(rand.NewSource(8))
	for most := range 17 {
		tables := NewTables(most)
		var list []int
		made := 0
		for range 600 {
			if r.Intn(60) == 0 {
				tables.Drop()
				list = nil
			}
			n := r.Intn(most*3/2 + 2)
			tables.ask(lengthsOf(n))
			if i := slices.Index(list, n); i >= 0 {
				list = slices.Delete(list, i, i+1)
			} else {
				made++
			}
			list = append(list, n)
			list = list[max(0, len(list)-most):]
			if tables.Made() != made || len(tables.kept) != len(list) {
				t.Fatalf("of %d: %d made and %d kept, want %d and %d", most, tables.Made(), len(tables.kept), made, len(list))
			}
			for _, n := range list {
				if _, found := tables.kept[lengthsOf(n)]; !found {
					t.Fatalf("of %d: %d is not kept", most, n)
				}
			}
		}
	}
}
