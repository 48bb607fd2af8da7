package draw

import (
	"encoding/binary"
	"encoding/hex"
	"math"
	"slices"
	"strings"
	"testing"

	"dumbwaiter/chac"
)

const (
	most = 65536
	last = math.MaxUint64
)

// powers are all numbers of leaves that are some.
func powers() []int {
	var list []int
	for n := 1; n <= most; n *= 2 {
		list = append(list, n)
	}
	return list
}

// wrong are numbers of leaves that are none.
func wrong() []int {
	list := []int{0, 3, 5, 6, 7, 9, 10, 12, 100, 255, 257, 65534, 65535, 65537, 65538, 98304, 100000, 131071, 131072, 1 << 20, 1 << 30, math.MaxInt32, math.MaxInt, math.MaxInt - 1, math.MinInt, math.MinInt + 1, math.MaxInt/2 + 1, 1 << 32, 1<<32 + 1, 1<<32 + 4}
	for _, n := range powers() {
		list = append(list, -n, -n-1)
	}
	return list
}

// words are draws whose bits all count, at places that tell them apart.
func words() []uint32 {
	return []uint32{7, math.MaxUint32, 0, 0x12345678, 0x80000001, 0xfffe8000, 65536, 65535, 0xdeadbeef, 5}
}

// numbers are edges of the Blocks, and of each byte of a Block's number.
func numbers() []uint64 {
	list := []uint64{0, 1, 2, 7, 14, 15, 16, 17, 31, 32, 33, 1 << 63, last - 16, last - 15, last - 14, last - 1, last}
	for shift := 8; shift < 64; shift += 4 {
		list = append(list, 1<<shift-17, 1<<shift-1, 1<<shift, 1<<shift+1, 1<<shift+16)
	}
	return append(list, 0x123456789abcdef0, 0xfedcba9876543217)
}

func someKey() [32]byte {
	var key [32]byte
	for i := range key {
		key[i] = byte(i*11 + 3)
	}
	return key
}

// bySentence is draw n of a Stream as the chapter's sentence tells it.
func bySentence(key [32]byte, n uint64) uint32 {
	var nonce [12]byte
	for i := range nonce {
		nonce[i] = byte(n / 16 >> (8 * i))
	}
	block := chac.Block(key, nonce, 0)
	return binary.LittleEndian.Uint32(block[4*(n%16):])
}

// 4.1: Leaves of all numbers about the bounds.
func TestLeavesArePowersOfTwo(t *testing.T) {
	for n := -200; n <= 3*most; n++ {
		if got, want := Leaves(n), slices.Contains(powers(), n); got != want {
			t.Errorf("Leaves(%d) = %t, want %t", n, got, want)
		}
	}
	for _, n := range wrong() {
		if Leaves(n) {
			t.Errorf("Leaves(%d) = true", n)
		}
	}
}

// 4.1: the document's example.
func TestExample(t *testing.T) {
	if got := Tape([]uint32{7}).Next(4); got != 3 {
		t.Errorf("Next(4) of Tape(7) = %d, want 3", got)
	}
}

// 4.1: Next answers a draw's lowest bits, of a Tape and of a Stream.
func TestNextTellsTheLowestBits(t *testing.T) {
	key := someKey()
	for _, leaves := range powers() {
		tape, stream := Tape(words()), Stream(key, 0)
		for n, word := range words() {
			if got, want := tape.Next(leaves), int(word%uint32(leaves)); got != want {
				t.Errorf("Next(%d) of %x = %d, want %d", leaves, word, got, want)
			}
			word = bySentence(key, uint64(n))
			if got, want := stream.Next(leaves), int(word%uint32(leaves)); got != want {
				t.Errorf("Next(%d) of the stream's %x = %d, want %d", leaves, word, got, want)
			}
		}
	}
}

// 4.1: of leaves that are none Next answers 0, and the draw is used.
func TestNextOfWrongLeaves(t *testing.T) {
	for _, leaves := range wrong() {
		key := someKey()
		for name, s := range map[string]*Source{"tape": Tape([]uint32{math.MaxUint32, 2, 3}), "stream": Stream(key, 0)} {
			want := 2
			if name == "stream" {
				want = int(bySentence(key, 1) % most)
			}
			if got := s.Next(leaves); got != 0 || s.Used() != 1 {
				t.Errorf("%s: Next(%d) = %d, %d used", name, leaves, got, s.Used())
			}
			if got := s.Next(most); got != want || s.Used() != 2 {
				t.Errorf("%s: behind Next(%d): %d, want %d, %d used", name, leaves, got, want, s.Used())
			}
		}
	}
}

// 4.1: a Tape tells its draws from 0 on, and noughts beyond its end.
func TestTapeTellsItsDraws(t *testing.T) {
	for length := range len(words()) + 1 {
		s := Tape(words()[:length])
		for n := range length + 20 {
			want := 0
			if n < length {
				want = int(words()[n] % most)
			}
			if s.Used() != uint64(n) {
				t.Errorf("tape of %d: Used() = %d, want %d", length, s.Used(), n)
			}
			if got := s.Next(most); got != want {
				t.Errorf("tape of %d: draw %d = %d, want %d", length, n, got, want)
			}
		}
	}
	for _, s := range []*Source{Tape(nil), Tape([]uint32{})} {
		if s.Used() != 0 || s.Next(most) != 0 || s.Used() != 1 {
			t.Error("a tape without draws")
		}
	}
}

// 4.1: no number far beyond a Tape's end comes back into it.
func TestTapeFarBeyondItsEnd(t *testing.T) {
	s := Tape(slices.Repeat([]uint32{math.MaxUint32}, 40))
	for _, n := range numbers() {
		want := 0
		if n < 40 {
			want = most - 1
		}
		s.Seek(n)
		if got := s.Next(most); got != want || s.Used() != n+1 {
			t.Errorf("draw %d = %d, want %d, %d used", n, got, want, s.Used())
		}
	}
}

// 4.1: the first draws of a Stream of noughts are RFC 8439, A.1, the first test vector.
func TestStreamOfTheKnownKey(t *testing.T) {
	block, err := hex.DecodeString(strings.ReplaceAll(
		"76b8e0ada0f13d90 405d6ae55386bd28 bdd219b8a08ded1a a836efcc8b770dc7"+
			"da41597c5157488d 7724e03fb8d84a37 6a43b8f41518a11c c387b669b2ee6586", " ", ""))
	if err != nil {
		t.Fatal(err)
	}
	s := Stream([32]byte{}, 0)
	for n := range 16 {
		want := int(block[4*n]) | int(block[4*n+1])<<8
		if got := s.Next(most); got != want {
			t.Errorf("draw %d = %x, want %x", n, got, want)
		}
	}
}

// 4.1: each draw of a Stream, wherever it begins, across the edges of its Blocks.
func TestStreamTellsItsDraws(t *testing.T) {
	key := someKey()
	for _, from := range numbers() {
		s := Stream(key, from)
		for i := range uint64(35) {
			n := from + i
			if n < from {
				break
			}
			if s.Used() != n {
				t.Errorf("from %d: Used() = %d, want %d", from, s.Used(), n)
			}
			if got, want := s.Next(most), int(bySentence(key, n)%most); got != want {
				t.Errorf("from %d: draw %d = %d, want %d", from, n, got, want)
			}
		}
	}
}

// 4.1: a Stream hangs on each byte of its key, and on each byte of a Block's number.
func TestStreamsDiffer(t *testing.T) {
	show := func(s *Source) (row [16]int) {
		for i := range row {
			row[i] = s.Next(most)
		}
		return row
	}
	seen := map[[16]int]bool{show(Stream([32]byte{}, 0)): true}
	keep := func(s *Source) {
		row := show(s)
		if seen[row] {
			t.Errorf("two streams show %v", row)
		}
		seen[row] = true
	}
	for i := range 32 {
		var key [32]byte
		key[i] = 1
		keep(Stream(key, 0))
	}
	for shift := 4; shift < 64; shift++ {
		keep(Stream([32]byte{}, 1<<shift))
	}
}

// 4.1: Seek goes forth and back, of a Tape and of a Stream; neither it nor Used uses a draw.
func TestSeek(t *testing.T) {
	key, from := someKey(), uint64(30)
	tape, stream := Tape(words()), Stream(key, from)
	for _, n := range append(numbers(), 3, 3, 0, 9, 30, 29, 1) {
		want := 0
		if n < uint64(len(words())) {
			want = int(words()[n] % most)
		}
		tape.Seek(5)
		tape.Seek(n)
		if tape.Used() != n || tape.Used() != n || tape.Next(most) != want || tape.Used() != n+1 {
			t.Errorf("tape: Seek(%d): %d used", n, tape.Used())
		}
		stream.Seek(5)
		stream.Seek(n)
		if stream.Used() != n || stream.Used() != n || stream.Next(most) != int(bySentence(key, n)%most) || stream.Used() != n+1 {
			t.Errorf("stream: Seek(%d): %d used", n, stream.Used())
		}
	}
}

// 4.1: one sought draw is the one that is come to.
func TestSoughtIsWhatIsComeTo(t *testing.T) {
	for name, s := range map[string]*Source{"tape": Tape(words()), "stream": Stream(someKey(), 0)} {
		var row []int
		for range 40 {
			row = append(row, s.Next(most))
		}
		for n := len(row) - 1; n >= 0; n-- {
			s.Seek(uint64(n))
			if got := s.Next(most); got != row[n] {
				t.Errorf("%s: draw %d = %d, was %d", name, n, got, row[n])
			}
		}
	}
}

// 4.2: a Stream is a tape, too: the same draws of both, each used once, whatever is asked of them.
func TestEachDrawIsUsedOnce(t *testing.T) {
	key := someKey()
	var l []uint32
	for n := range uint64(100) {
		l = append(l, bySentence(key, n))
	}
	asked := []int{most, 3, 4, 0, 1, -1, 256, 131072, 2, 1024}
	tape, stream := Tape(l), Stream(key, 0)
	for n, word := range l {
		leaves, want := asked[n%len(asked)], 0
		if Leaves(leaves) {
			want = int(word % uint32(leaves))
		}
		if got := tape.Next(leaves); got != want || tape.Used() != uint64(n)+1 {
			t.Errorf("tape: draw %d = %d, want %d, %d used", n, got, want, tape.Used())
		}
		if got := stream.Next(leaves); got != want || stream.Used() != uint64(n)+1 {
			t.Errorf("stream: draw %d = %d, want %d, %d used", n, got, want, stream.Used())
		}
	}
}

// 4.2: no Source uses another's draws, also of one list or of one key.
func TestSourcesAreApart(t *testing.T) {
	l, key := words(), someKey()
	one, other := Tape(l), Tape(l)
	first, second := Stream(key, 3), Stream(key, 3)
	for range 5 {
		one.Next(most)
		first.Next(most)
	}
	one.Seek(9)
	first.Seek(9)
	if other.Used() != 0 || other.Next(most) != int(l[0]%most) {
		t.Error("two tapes of one list share their draws")
	}
	if second.Used() != 3 || second.Next(most) != int(bySentence(key, 3)%most) {
		t.Error("two streams of one key share their draws")
	}
}

// The document's rule 3: the list that is handed in is neither changed nor kept, nor is its spare room.
func TestListIsNeitherChangedNorKept(t *testing.T) {
	room := words()
	for length := range len(room) + 1 {
		s := Tape(room[:length])
		for range 20 {
			s.Next(most)
		}
		s.Seek(0)
		s.Next(3)
		if !slices.Equal(room, words()) {
			t.Fatal("the list has changed")
		}
		for i := range room {
			room[i] = ^room[i]
		}
		s.Seek(0)
		for n, word := range words() {
			want := int(word % most)
			if n >= length {
				want = 0
			}
			if got := s.Next(most); got != want {
				t.Errorf("tape of %d: draw %d = %d, want %d", length, n, got, want)
			}
		}
		room = words()
	}
}

// 4.3: whatever is handed in, no call panics, and no leaf is beyond the leaves.
func TestNoCallPanics(t *testing.T) {
	asked := append(powers(), wrong()...)
	for name, s := range map[string]*Source{"nothing": Tape(nil), "tape": Tape(words()), "stream": Stream(someKey(), last)} {
		for _, leaves := range asked {
			for _, n := range []uint64{0, 9, 10, 15, 16, math.MaxInt64, 1 << 63, last} {
				s.Seek(n)
				for range 2 {
					if got := s.Next(leaves); got < 0 || got > 0 && got >= leaves {
						t.Errorf("%s: Next(%d) = %d", name, leaves, got)
					}
				}
				s.Used()
			}
			Leaves(leaves)
		}
	}
}
