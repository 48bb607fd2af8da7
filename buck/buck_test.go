package buck

import (
	"bytes"
	"encoding/binary"
	"math"
	"math/rand"
	"testing"

	"dumbwaiter/api"
)

const most = math.MaxInt32 // the greatest ID and Leaf

// cell is a Cell with such Data.
func cell(id, leaf int, data string) api.Cell {
	return api.Cell{ID: id, Leaf: leaf, Data: []byte(data)}
}

// told are the bytes that the sentence tells of such Cells, apart from the program.
func told(l []api.Cell, z, size int) []byte {
	var b []byte
	for _, c := range l {
		b = binary.LittleEndian.AppendUint32(b, uint32(c.ID))
		b = binary.LittleEndian.AppendUint32(b, uint32(c.Leaf))
		b = append(b, c.Data...)
	}
	return append(b, make([]byte, z*(8+size)-len(b))...)
}

// read are the Cells that the sentence tells of bytes, apart from the program; false, if there are none that it tells so.
func read(b []byte, z, size int) ([]api.Cell, bool) {
	if len(b) != z*(8+size) {
		return nil, false
	}
	var l []api.Cell
	ended := false
	for slot := range z {
		one := b[slot*(8+size) : (slot+1)*(8+size)]
		if bytes.Count(one, []byte{0}) == len(one) {
			ended = true
			continue
		}
		id, leaf := binary.LittleEndian.Uint32(one), binary.LittleEndian.Uint32(one[4:])
		if ended || id == 0 || id > most || leaf > most {
			return nil, false
		}
		l = append(l, cell(int(id), int(leaf), string(one[8:])))
	}
	return l, true
}

func same(one, other []api.Cell) bool {
	if len(one) != len(other) {
		return false
	}
	for i, c := range one {
		if c.ID != other[i].ID || c.Leaf != other[i].Leaf || !bytes.Equal(c.Data, other[i].Data) {
			return false
		}
	}
	return true
}

// copied are Cells as l, that share nothing with it.
func copied(l []api.Cell) []api.Cell {
	var other []api.Cell
	for _, c := range l {
		other = append(other, cell(c.ID, c.Leaf, string(c.Data)))
	}
	return other
}

// number is one of 1 to 2^31 - 1, of all lengths.
func number(random *rand.Rand) int {
	return max(int(random.Uint32()>>(1+random.Intn(31))), 1)
}

// randomCells are n Cells of size bytes.
func randomCells(random *rand.Rand, n, size int) []api.Cell {
	var l []api.Cell
	for range n {
		data := make([]byte, size)
		random.Read(data)
		l = append(l, api.Cell{ID: number(random), Leaf: number(random) - random.Intn(2), Data: data})
	}
	return l
}

// turns tells if l is told in the bytes of the sentence, and these are told back.
func turns(t *testing.T, l []api.Cell, z, size int) {
	t.Helper()
	b, ok := Code(l, z, size)
	if !ok || !bytes.Equal(b, told(l, z, size)) {
		t.Fatalf("%d Cells of %d, %d bytes each: %t, %v", len(l), z, size, ok, b[:min(len(b), 100)])
	}
	back, ok := Parse(b, z, size)
	if !ok || !same(back, l) {
		t.Fatalf("%d Cells of %d, %d bytes each: %t, back %d", len(l), z, size, ok, len(back))
	}
}

// refusesCells tells if Code answers false, and nothing beside it.
func refusesCells(t *testing.T, what string, l []api.Cell, z, size int) {
	t.Helper()
	if b, ok := Code(l, z, size); len(b) != 0 || ok {
		t.Errorf("%s: Code of %d Cells, %d, %d: %d bytes, %t", what, len(l), z, size, len(b), ok)
	}
}

// refusesBytes tells if Parse answers false, and nothing beside it.
func refusesBytes(t *testing.T, what string, b []byte, z, size int) {
	t.Helper()
	if l, ok := Parse(b, z, size); len(l) != 0 || ok {
		t.Errorf("%s: Parse of %d bytes, %d, %d: %d Cells, %t", what, len(b), z, size, len(l), ok)
	}
}

// wrongPairs are z and size of which one at least is out of its bounds.
func wrongPairs() [][2]int {
	var list [][2]int
	for _, z := range []int{-1, -2, -16, 17, 18, 32, 256, 1 << 16, 1 << 32, math.MaxInt32, math.MinInt32, math.MaxInt, math.MinInt, math.MinInt + 1, math.MaxInt - 1} {
		for _, size := range []int{0, 1, 2, 8, 60000} {
			list = append(list, [2]int{z, size})
		}
	}
	for _, size := range []int{-1, -2, -8, -9, 60001, 60002, 65536, 1 << 32, math.MaxInt32, math.MinInt32, math.MaxInt, math.MaxInt - 8, math.MaxInt - 7, math.MinInt, math.MinInt + 1} {
		for _, z := range []int{0, 1, 2, 16, 17, -1, math.MaxInt, math.MinInt} {
			list = append(list, [2]int{z, size})
		}
	}
	return list
}

// 14.1: the chapter's example, and Long of all numbers of Cells and some sizes.
func TestLong(t *testing.T) {
	if got := Long(4, 8); got != 64 {
		t.Errorf("Long(4, 8) = %d, want 64", got)
	}
	for z := 0; z <= 16; z++ {
		for _, size := range []int{0, 1, 2, 7, 8, 9, 22, 100, 255, 256, 1000, 59999, 60000} {
			want := 0
			for range z {
				want += 4 + 4 + size
			}
			if got := Long(z, size); got != want {
				t.Errorf("Long(%d, %d) = %d, want %d", z, size, got, want)
			}
		}
	}
}

// 14.1: Cells told by hand.
func TestCellsByHand(t *testing.T) {
	for i, x := range []struct {
		l       []api.Cell
		z, size int
		want    []byte
	}{
		{nil, 0, 0, nil},
		{[]api.Cell{}, 0, 60000, nil},
		{nil, 1, 0, make([]byte, 8)},
		{[]api.Cell{}, 2, 3, make([]byte, 22)},
		{[]api.Cell{cell(1, 0, "")}, 1, 0, []byte{1, 0, 0, 0, 0, 0, 0, 0}},
		{[]api.Cell{{ID: 258, Leaf: 772}}, 2, 0, []byte{2, 1, 0, 0, 4, 3, 0, 0, 0, 0, 0, 0, 0, 0, 0, 0}},
		{[]api.Cell{cell(0x01020304, 0x7BCDEF12, "ab")}, 1, 2, []byte{4, 3, 2, 1, 0x12, 0xEF, 0xCD, 0x7B, 'a', 'b'}},
		{[]api.Cell{cell(most, most, "z")}, 1, 1, []byte{255, 255, 255, 127, 255, 255, 255, 127, 'z'}},
		{[]api.Cell{cell(9, 8, "b"), cell(3, 4, "a")}, 3, 1, []byte{9, 0, 0, 0, 8, 0, 0, 0, 'b', 3, 0, 0, 0, 4, 0, 0, 0, 'a', 0, 0, 0, 0, 0, 0, 0, 0, 0}},
		{[]api.Cell{cell(5, 0, "\x00"), cell(5, 0, "\x00")}, 2, 1, []byte{5, 0, 0, 0, 0, 0, 0, 0, 0, 5, 0, 0, 0, 0, 0, 0, 0, 0}},
	} {
		if got, ok := Code(x.l, x.z, x.size); !ok || !bytes.Equal(got, x.want) {
			t.Errorf("%d: %v, %t, want %v", i, got, ok, x.want)
		}
		if back, ok := Parse(x.want, x.z, x.size); !ok || !same(back, x.l) {
			t.Errorf("%d: back %v, %t", i, back, ok)
		}
	}
}

// 14.1: as many Cells as a bucket may hold or fewer, of all kinds of sizes, forth and back.
func TestCellsForthAndBack(t *testing.T) {
	random := rand.New(rand.NewSource(141))
	for z := 0; z <= 16; z++ {
		for n := 0; n <= z; n++ {
			for _, size := range []int{0, 1, 2, 3, 8, 60, 300} {
				for range 5 {
					turns(t, randomCells(random, n, size), z, size)
				}
			}
		}
	}
	for _, n := range []int{0, 1, 15, 16} {
		turns(t, randomCells(random, n, 60000), 16, 60000)
	}
}

// 14.1: IDs and Leafs at their bounds and at each power of two are told, and Data of noughts is no end.
func TestEdgesOfNumbers(t *testing.T) {
	for bit := range 31 {
		for _, n := range []int{1<<bit - 1, 1 << bit, 1<<bit + 1, most - 1<<bit, most} {
			for _, size := range []int{0, 1, 9} {
				data := make([]byte, size)
				l := []api.Cell{{ID: max(n, 1), Data: data}, {ID: 1, Leaf: n, Data: data}, {ID: most, Leaf: n, Data: data}}
				turns(t, l, 3, size)
				turns(t, l, 4, size)
			}
		}
	}
}

// 14.1: no more Cells are told than a bucket holds.
func TestTooManyCells(t *testing.T) {
	random := rand.New(rand.NewSource(14))
	for z := 0; z <= 16; z++ {
		for _, more := range []int{1, 2, 16, 100} {
			refusesCells(t, "too many", randomCells(random, z+more, 2), z, 2)
		}
	}
}

// 14.1: no bucket is told that has a Cell with an ID, a Leaf or Data out of its bounds, wherever it stands.
func TestWrongCells(t *testing.T) {
	wrong := []api.Cell{
		cell(1, 0, ""), cell(1, 0, "a"), cell(1, 0, "abc"), cell(1, 0, "abcdefghi"), {ID: 1}, {},
		cell(1, 0, "ab\x00"), {ID: 1, Data: make([]byte, 60000)},
	}
	for _, n := range []int{-1, -2, -most, math.MinInt32, most + 1, most + 2, 1 << 32, 1<<32 + 1, 1 << 33, 1<<62 + 5, math.MaxInt, math.MinInt, math.MinInt + 1} {
		wrong = append(wrong, cell(n, 0, "ab"), cell(1, n, "ab"), cell(n, n, "ab"))
	}
	wrong = append(wrong, cell(0, 0, "ab"), cell(0, 1, "ab"), cell(0, most, "\x00\x00"))
	random := rand.New(rand.NewSource(15))
	for _, c := range wrong {
		for n := range 5 {
			for at := 0; at <= n; at++ {
				l := randomCells(random, n+1, 2)
				l[at] = c
				refusesCells(t, "a wrong Cell", l, n+1, 2)
				refusesCells(t, "a wrong Cell", l, 16, 2)
			}
		}
	}
}

// 14.1: what of z and size is out of its bounds is told neither way, not even of no Cells.
func TestWrongPairs(t *testing.T) {
	for _, x := range wrongPairs() {
		z, size := x[0], x[1]
		for _, l := range [][]api.Cell{nil, {}, {{ID: 1}}, {cell(1, 2, "a")}} {
			refusesCells(t, "out of bounds", l, z, size)
		}
		for _, long := range []int{0, 1, 8, 9, 10, 17 * 8, 17 * 9, 18 * 8, 60009, Long(z, size)} {
			if long >= 0 && long <= 2000000 {
				refusesBytes(t, "out of bounds", make([]byte, long), z, size)
			}
		}
	}
	refusesCells(t, "of a size beyond the bound", []api.Cell{{ID: 1, Data: make([]byte, 60001)}}, 1, 60001)
}

// 14.1: bytes of any other length than Long are none.
func TestWrongLengths(t *testing.T) {
	random := rand.New(rand.NewSource(16))
	for z := 0; z <= 4; z++ {
		for _, size := range []int{0, 1, 7} {
			whole := append(told(randomCells(random, z, size), z, size), make([]byte, 40)...)
			for long := range whole {
				if long != Long(z, size) {
					refusesBytes(t, "of another length", whole[:long], z, size)
					refusesBytes(t, "noughts of another length", make([]byte, long), z, size)
				}
			}
		}
	}
	refusesBytes(t, "none at all", nil, 1, 0)
	refusesBytes(t, "a byte of none", []byte{0}, 0, 7)
}

// 14.1: an ID or a Leaf beyond the greatest is none, in any slot.
func TestNumbersBeyondTheGreatest(t *testing.T) {
	random := rand.New(rand.NewSource(17))
	for n := 1; n <= 4; n++ {
		for slot := range n {
			for _, at := range []int{3, 7} {
				for high := 128; high < 256; high++ {
					b := told(randomCells(random, n, 1), n+1, 1)
					b[slot*9+at] = byte(high)
					refusesBytes(t, "beyond the greatest", b, n+1, 1)
				}
			}
		}
	}
}

// 14.1: behind the last Cell are noughts alone, each single byte of them.
func TestNoughtsBehindTheLast(t *testing.T) {
	random := rand.New(rand.NewSource(18))
	for n := range 4 {
		l := randomCells(random, n, 3)
		b := told(l, 4, 3)
		for at := n * 11; at < len(b); at++ {
			for _, x := range []byte{1, 127, 128, 255} {
				b[at] = x
				got, ok := Parse(b, 4, 3)
				// The four bytes behind the last Cell are an ID: with it a further Cell is told.
				if want, is := read(b, 4, 3); ok != is || !same(got, want) || is != (at-n*11 < 3 || at-n*11 == 3 && x < 128) {
					t.Errorf("behind %d Cells, byte %d is %d: %d Cells, %t", n, at, x, len(got), ok)
				}
				b[at] = 0
			}
		}
	}
}

// 14.1: a Cell behind noughts is none, though both slots are such.
func TestNoCellBehindNoughts(t *testing.T) {
	for _, size := range []int{0, 1, 5} {
		one := told([]api.Cell{{ID: 1, Data: make([]byte, size)}}, 1, size)
		nought := make([]byte, len(one))
		refusesBytes(t, "behind noughts", bytes.Join([][]byte{nought, one}, nil), 2, size)
		refusesBytes(t, "behind noughts", bytes.Join([][]byte{one, nought, one}, nil), 3, size)
		refusesBytes(t, "behind noughts", bytes.Join([][]byte{nought, nought, one, nought}, nil), 4, size)
	}
}

// 14.1: of rows of bytes, with many noughts among them, Parse tells those that Code tells, and no others.
func TestParseTellsWhatCodeTells(t *testing.T) {
	random := rand.New(rand.NewSource(19))
	count := map[bool]int{}
	for range 200000 {
		z, size := random.Intn(4), random.Intn(3)
		b := make([]byte, z*(8+size))
		for range random.Intn(2 + len(b)/2) {
			if len(b) > 0 {
				b[random.Intn(len(b))] = byte(random.Uint32() >> random.Intn(8))
			}
		}
		if random.Intn(4) == 0 {
			b = told(randomCells(random, random.Intn(z+1), size), z, size)
		}
		want, is := read(b, z, size)
		got, ok := Parse(b, z, size)
		if ok != is || !same(got, want) {
			t.Fatalf("Parse(%v, %d, %d) = %v, %t, want %v, %t", b, z, size, got, ok, want, is)
		}
		if again, ok := Code(got, z, size); is && (!ok || !bytes.Equal(again, b)) {
			t.Fatalf("Code(%v, %d, %d) = %v, %t, want %v", got, z, size, again, ok, b)
		}
		count[is]++
	}
	if count[true] < 10000 || count[false] < 10000 {
		t.Errorf("%d told, %d not", count[true], count[false])
	}
}

// 14.1: what is handed in is not changed, nor its spare room, and it is not kept.
func TestNothingIsChangedOrKept(t *testing.T) {
	room := []api.Cell{cell(1, 2, "ab"), cell(3, 4, "cd"), cell(5, 6, "ef")}
	data := []byte("abXY")
	room[0].Data = data[:2]
	want := told(copied(room[:2]), 3, 2)
	b, _ := Code(room[:2], 3, 2)
	if !same(room, []api.Cell{cell(1, 2, "ab"), cell(3, 4, "cd"), cell(5, 6, "ef")}) || string(data) != "abXY" {
		t.Errorf("changed: %v, %q", room, data)
	}
	data[0], room[1].ID = 'z', 9
	if !bytes.Equal(b, want) {
		t.Errorf("kept: %v, want %v", b, want)
	}
	bytesRoom := append(bytes.Clone(want), "spare"...)
	l, _ := Parse(bytesRoom[:len(want)], 3, 2)
	if !bytes.Equal(bytesRoom[:len(want)], want) || string(bytesRoom[len(want):]) != "spare" {
		t.Errorf("changed: %v", bytesRoom)
	}
	for i := range bytesRoom {
		bytesRoom[i] = 77
	}
	if !same(l, []api.Cell{cell(1, 2, "ab"), cell(3, 4, "cd")}) {
		t.Errorf("kept: %v", l)
	}
}

// 14.1: no two lists of one answer share any memory, nor do two answers, their spare room too.
func TestAnswersShareNothing(t *testing.T) {
	random := rand.New(rand.NewSource(20))
	for _, size := range []int{0, 1, 5, 8, 100} {
		want := randomCells(random, 16, size)
		b := told(want, 16, size)
		one, _ := Parse(b, 16, size)
		other, _ := Parse(b, 16, size)
		for i := range one {
			spoil(one[i].Data)
			if !same(one[i+1:], want[i+1:]) {
				t.Errorf("of size %d: the Data behind Cell %d changed with it", size, i)
			}
		}
		one = one[:cap(one)]
		for i := range one {
			one[i] = cell(9, 9, "spoiled")
		}
		first, _ := Code(want, 16, size)
		second, _ := Code(want, 16, size)
		spoil(first)
		if !same(other, want) || !bytes.Equal(second, b) {
			t.Errorf("of size %d: an answer changed with another", size)
		}
	}
}

// spoil fills b and its spare room.
func spoil(b []byte) {
	b = b[:cap(b)]
	for i := range b {
		b[i] ^= 0xA5
	}
}

// 14.2: a bucket is as long, however much is in it.
func TestBucketsAreAsLong(t *testing.T) {
	random := rand.New(rand.NewSource(142))
	for z := 0; z <= 16; z++ {
		for _, size := range []int{0, 1, 8, 50, 1000, 60000} {
			for n := 0; n <= z; n++ {
				b, ok := Code(randomCells(random, n, size), z, size)
				if !ok || len(b) != z*(8+size) {
					t.Errorf("%d Cells of %d, %d bytes each: %d bytes, %t", n, z, size, len(b), ok)
				}
			}
		}
	}
}

// 14.3: no call panics, whatever it is given.
func TestNoCallPanics(t *testing.T) {
	random := rand.New(rand.NewSource(143))
	pairs := append(wrongPairs(), [][2]int{{0, 0}, {0, 1}, {1, 0}, {2, 1}, {16, 60000}, {16, 3}, {1, 60000}}...)
	for _, x := range pairs {
		z, size := x[0], x[1]
		Long(z, size)
		for _, n := range []int{0, 1, 2, 15, 16, 17} {
			l := randomCells(random, n, min(max(size, 0), 60001))
			Code(l, z, size)
			Code(make([]api.Cell, n), z, size)
		}
		for _, long := range []int{0, 1, 3, 4, 7, 8, 9, 15, 16, 18, 176, 60008, 16 * 60008, 16*60008 + 1} {
			b := make([]byte, long)
			Parse(b, z, size)
			random.Read(b)
			Parse(b, z, size)
		}
	}
	for range 50000 {
		z, size := int(random.Uint64()>>random.Intn(64)), int(random.Uint64()>>random.Intn(64))
		Long(z, size)
		if _, ok := Code(nil, z, size); ok != (z >= 0 && z <= 16 && size >= 0 && size <= 60000) {
			t.Fatalf("Code(nil, %d, %d): %t", z, size, ok)
		}
		Parse(make([]byte, random.Intn(40)), z, size)
	}
}
