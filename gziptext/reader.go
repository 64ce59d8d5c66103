package gziptext

import (
	"strconv"
	"strings"

	"gunz/checksum"
	"gunz/packed"
)

type reader struct {
	data  string
	at    int // the byte that is taken next
	limit int // how many bytes the members to come may put out
}

// Read answers the members of a gzip text, which put out at most limit bytes
// together. Where the text ends too early, the error wraps a packed.Short.
func Read(data string, limit int) ([]Member, error) {
	r := &reader{data: data, limit: limit}
	var members []Member
	for len(members) == 0 || r.at < len(data) {
		first := r.at
		one, err := r.member(len(members))
		if err != nil {
			return nil, &packed.Fault{Where: "the member from byte " + strconv.Itoa(first), Cause: err}
		}
		members = append(members, one)
	}
	return members, nil
}

// member takes a member that has so many ahead of it. Where bytes gave up,
// it tells that as an error.
func (r *reader) member(ahead int) (one Member, err error) {
	defer func() {
		caught := recover()
		if caught == nil {
			return
		}
		short, ok := caught.(*packed.Short)
		if !ok {
			panic(caught)
		}
		err = short
	}()
	if ahead == MostMembers {
		return Member{}, wrongHead("one too many")
	}
	if err := r.head(&one); err != nil {
		return Member{}, err
	}
	if one.Data, err = r.content(); err != nil {
		return Member{}, err
	}
	return one, nil
}

func wrongHead(where string) error {
	return &packed.Fault{Where: where, Cause: ErrHead}
}

// head takes all that stands ahead of the packed data.
func (r *reader) head(one *Member) error {
	first := r.at
	for i := range len(begin) {
		if r.number(1) != int(begin[i]) {
			return wrongHead("the first bytes")
		}
	}
	flags := r.number(1)
	if flags&noFlags != 0 {
		return wrongHead("the flags")
	}
	one.Time = r.number(4)
	r.bytes(2)
	if err := r.fields(flags, one); err != nil {
		return err
	}
	if flags&hasCheck == 0 {
		return nil
	}
	sum := int(checksum.Of(r.data[first:r.at]) & 0xffff)
	if r.number(2) != sum {
		return wrongHead("the check of the head")
	}
	return nil
}

// fields takes those parts of a head that flags tell of.
func (r *reader) fields(flags int, one *Member) (err error) {
	if flags&hasExtra != 0 {
		if one.Extra, err = r.extra(); err != nil {
			return err
		}
	}
	if flags&hasName != 0 {
		if one.Name, err = r.upToZero(); err != nil {
			return err
		}
	}
	if flags&hasComment != 0 {
		if one.Comment, err = r.upToZero(); err != nil {
			return err
		}
	}
	return nil
}

func (r *reader) extra() (string, error) {
	size := r.number(2)
	if size > LongestName {
		return "", wrongHead("the number of an extra field")
	}
	return strings.Clone(r.bytes(size)), nil
}

// upToZero takes a name or a comment, and the 0 behind it.
func (r *reader) upToZero() (string, error) {
	first := r.at
	for r.number(1) != 0 {
		if r.at-first > LongestName {
			return "", wrongHead("a name or a comment")
		}
	}
	return strings.Clone(r.data[first : r.at-1]), nil
}

// content takes packed data and what stands behind them.
func (r *reader) content() (string, error) {
	data := packed.NewReader(r.limit, packed.NewTables(0))
	out, err := data.Read(r.data[r.at:])
	if err != nil {
		return "", err
	}
	r.at += data.Begun()
	r.limit -= len(out)
	sum := r.number(4)
	size := r.number(4)
	if sum != int(checksum.Of(out)) || size != len(out) {
		return "", &packed.Fault{Where: "the end", Cause: ErrSum}
	}
	return out, nil
}

// bytes takes n bytes, and gives up where there are not so many.
func (r *reader) bytes(n int) string {
	if n > len(r.data)-r.at {
		panic(&packed.Short{Have: 8 * len(r.data)})
	}
	taken := r.data[r.at : r.at+n]
	r.at += n
	return taken
}

// number takes a number of n bytes, the lowest first.
func (r *reader) number(n int) int {
	taken := r.bytes(n)
	sum := 0
	for i := range n {
		sum |= int(taken[i]) << (8 * i)
	}
	return sum
}
