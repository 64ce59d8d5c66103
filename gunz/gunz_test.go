package gunz_test

import (
	"fmt"
	"hash/crc32"
	"math"
	"math/rand"
	"slices"
	"strings"
	"testing"

	"gunz/gunz"
)

func TestErrnos(t *testing.T) {
	names := []gunz.Errno{gunz.OK, gunz.ErrLong, gunz.ErrShort, gunz.ErrBlock, gunz.ErrStored, gunz.ErrCode, gunz.ErrSymbol,
		gunz.ErrFar, gunz.ErrLimit, gunz.ErrHead, gunz.ErrSum, gunz.ErrRange, gunz.ErrEnded}
	for want, errno := range names {
		if int(errno) != want {
			t.Errorf("the error named as number %d is %d", want, errno)
		}
	}
}

func TestSum(t *testing.T) {
	for data, want := range map[string]int{"": 0, "a": 0xe8b7be43, "123456789": 0xcbf43926, "\x00": 0xd202ef8d, "\xff\xff\xff\xff": 4294967295} {
		if sum := gunz.Sum(data); sum != want {
			t.Errorf("P3: Sum(%q) = %d, want %d", data, sum, want)
		}
	}
	r := rand.New(rand.NewSource(3))
	for n := range 600 {
		data := make([]byte, n*n/40)
		r.Read(data)
		if sum := gunz.Sum(string(data)); sum != int(crc32.ChecksumIEEE(data)) {
			t.Errorf("P3: Sum of %d bytes = %d, want %d", len(data), sum, crc32.ChecksumIEEE(data))
		}
	}
	for b := range 256 {
		data := string([]byte{byte(b)})
		if sum := gunz.Sum(data); sum != int(crc32.ChecksumIEEE([]byte(data))) {
			t.Errorf("P3: Sum(%q) = %d", data, sum)
		}
	}
}

// numbers are arguments of all sorts.
func numbers() []int {
	return []int{math.MinInt, -1, 0, 1, 2, 3, 5, 15, 17, 258, 1500, 1501, 3999, 6000, 6001, math.MaxInt}
}

func texts(r *rand.Rand) []string {
	list := []string{"", "\x00", "\x03\x00", "\x1f\x8b\x08", strings.Repeat("\xff", 4000), strings.Repeat("\x00", 4001), strings.Repeat("\x04", 70000)}
	for range 300 {
		noise := make([]byte, r.Intn(80))
		r.Read(noise)
		if len(noise) > 0 && r.Intn(2) == 0 {
			noise[0] = noise[0]&^6 | 4 // a block of kind 2
		}
		if len(noise) > 3 && r.Intn(3) == 0 {
			noise = append([]byte(plainHead), noise...)
			noise[3] = byte(r.Intn(32))
		}
		list = append(list, string(noise))
	}
	return list
}

// TestEveryCallEnds: a call that panics or does not end fails the test.
func TestEveryCallEnds(t *testing.T) {
	for _, text := range texts(rand.New(rand.NewSource(4))) {
		if sum := gunz.Sum(text); sum < 0 || sum > 4294967295 {
			t.Errorf("P3: Sum(%.40q) = %d", text, sum)
		}
		for _, n := range numbers() {
			out, begun, errno := gunz.Inflate(text, n)
			if errno != gunz.OK && (out != "" || begun != 0) {
				t.Errorf("P1: Inflate(%.40q, %d): %q, %d beside %d", text, n, out, begun, errno)
			}
			if out, errno := gunz.Deflate(text, n); errno != gunz.OK && out != "" {
				t.Errorf("P1: Deflate(%.40q, %d): %q beside %d", text, n, out, errno)
			}
			checkMembersEnd(t, text, n)
			checkDecoderEnds(t, text, n)
		}
	}
}

func checkMembersEnd(t *testing.T, text string, n int) {
	t.Helper()
	if members, errno := gunz.Unzip(text, n); (errno == gunz.OK) != (members != nil) {
		t.Errorf("P1: Unzip(%.40q, %d): %v beside %d", text, n, members, errno)
	}
	all := gunz.Member{Name: text, Comment: text, Extra: text, Time: n, Data: text}
	for _, members := range [][]gunz.Member{nil, {}, {all}, {{Data: text}, {Name: text}, {Comment: text}, {Extra: text}, {Time: n}}, make([]gunz.Member, min(max(n, 0), 7000))} {
		for _, kind := range []int{n, 2} {
			if out, errno := gunz.Zip(members, kind); (errno == gunz.OK) != (out != "") {
				t.Errorf("P1: Zip(%.40v, %d): %q beside %d", members, kind, out, errno)
			}
		}
	}
}

func checkDecoderEnds(t *testing.T, text string, n int) {
	t.Helper()
	d := gunz.New(n)
	d.Drop()
	for _, limit := range []int{n, 6000, n} {
		d.Begin(limit)
		for _, piece := range []string{text, "", text} {
			if out, errno := d.Feed(piece); (errno == gunz.ErrLong || errno == gunz.ErrEnded) && out != "" {
				t.Errorf("P1: Feed(%.40q): %q beside %d", piece, out, errno)
			}
			if begun, errno := d.End(); errno != gunz.OK && begun != 0 {
				t.Errorf("P1: End(): %d beside %d", begun, errno)
			}
			d.Drop()
			d.Made()
		}
	}
}

// TestAnswersHangOnArguments: the same call answers the same, whatever was
// asked in between, and leaves what was handed in as it was.
func TestAnswersHangOnArguments(t *testing.T) {
	type answer struct {
		out   string
		begun int
		errno gunz.Errno
		sum   int
		fed   string
		met   gunz.Errno
		made  int
		packs [3]string
		zips  [3]string
		read  string
		found gunz.Errno
	}
	ask := func(text string) answer {
		out, begun, errno := gunz.Inflate(text, 6000)
		d := gunz.New(2)
		d.Begin(6000)
		fed, met := d.Feed(text)
		var packs, zips [3]string
		for kind := range packs {
			packs[kind], _ = gunz.Deflate(text, kind)
			zips[kind], _ = gunz.Zip([]gunz.Member{{Data: text, Extra: text[:min(40, len(text))]}, {Time: len(text)}}, kind)
		}
		read, found := gunz.Unzip(text, 6000)
		return answer{out, begun, errno, gunz.Sum(text), fed, met, d.Made(), packs, zips, fmt.Sprint(read), found}
	}
	r := rand.New(rand.NewSource(6))
	list := texts(r)
	for range 100 {
		list = append(list, packedByOther(r, randomText(r, r.Intn(500))))
		zip, _ := zippedByOther(r, 1+r.Intn(3))
		list = append(list, zip)
	}
	var copies []string
	var answers []answer
	for _, text := range list {
		copies = append(copies, strings.Clone(text))
		answers = append(answers, ask(text))
	}
	for _, i := range r.Perm(len(list)) {
		if again := ask(list[i]); again != answers[i] {
			t.Errorf("P2: asked again of %.40q: %v, before %v", list[i], again, answers[i])
		}
	}
	if !slices.Equal(list, copies) {
		t.Error("P2: what was handed in was changed")
	}
}
