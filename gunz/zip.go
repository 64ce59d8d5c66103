package gunz

import (
	"strings"

	"gunz/gziptext"
)

// Unzip reads a gzip text (P13).
func Unzip(data string, limit int) ([]Member, Errno) {
	if refused := mayRead(data, limit); refused != OK {
		return nil, refused
	}
	read, err := gziptext.Read(data, limit)
	if err != nil {
		return nil, toldAs(err)
	}
	members := make([]Member, len(read))
	for i, one := range read {
		members[i] = Member(one)
	}
	return members, OK
}

// Zip writes a gzip text (P14).
func Zip(members []Member, kind int) (string, Errno) {
	if refused := mayWrite(members, kind); refused != OK {
		return "", refused
	}
	list := make([]gziptext.Member, len(members))
	for i, one := range members {
		list[i] = gziptext.Member(one)
	}
	text := gziptext.Write(list, kind)
	if len(text) > maxData {
		return "", ErrLong
	}
	return text, OK
}

// mayWrite answers what is wrong with the arguments of Zip. Each error is
// looked for in all members ahead of the next one.
func mayWrite(members []Member, kind int) Errno {
	if !isKind(kind) || len(members) == 0 || len(members) > gziptext.MostMembers {
		return ErrRange
	}
	for _, one := range members {
		if one.Time < 0 || one.Time > maxTime {
			return ErrRange
		}
	}
	for _, one := range members {
		if !isText(one.Name) || !isText(one.Comment) || len(one.Extra) > gziptext.LongestName {
			return ErrHead
		}
	}
	for _, one := range members {
		if len(one.Data) > maxPlain {
			return ErrLong
		}
	}
	return OK
}

// isText answers whether a head has room for a name or a comment, which a 0
// would end.
func isText(text string) bool {
	return len(text) <= gziptext.LongestName && !strings.Contains(text, "\x00")
}
