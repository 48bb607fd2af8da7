package le

import (
	"bytes"
	"encoding/binary"
	"hash/fnv"
	"math"
	"slices"
	"testing"
)

const most = 60000

// numbers are the edges of each width, and numbers whose bytes all differ.
func numbers() []uint64 {
	list := []uint64{0, 1, 258, 0x0102030405060708, 0xf1e2d3c4b5a69788, math.MaxUint64}
	for shift := 8; shift < 64; shift += 8 {
		list = append(list, 1<<shift-1, 1<<shift, 1<<shift+1)
	}
	return list
}

func counted(n int) []byte {
	b := make([]byte, n)
	for i := range b {
		b[i] = byte(i*7 + i>>8 + 1)
	}
	return b
}

// 1.1: Put.
func TestPutTellsTheLowestBytes(t *testing.T) {
	for _, n := range numbers() {
		whole := binary.LittleEndian.AppendUint64(nil, n)
		for size := 0; size <= 8; size++ {
			if got := Put(n, size); !bytes.Equal(got, whole[:size]) {
				t.Errorf("Put(%d, %d) = %v, want %v", n, size, got, whole[:size])
			}
		}
	}
	if got := Put(258, 2); !bytes.Equal(got, []byte{2, 1}) {
		t.Errorf("the document's example: %v", got)
	}
}

// 1.1: Put of sizes that are none.
func TestPutOfWrongSizes(t *testing.T) {
	for _, size := range []int{-1, -8, 9, 10, 16, 64, 256, math.MinInt, math.MaxInt} {
		if got := Put(math.MaxUint64, size); len(got) != 0 {
			t.Errorf("Put(.., %d) = %v, want none", size, got)
		}
	}
}

// 1.1: Get is back from Put, modulo what size leaves out.
func TestGetIsBack(t *testing.T) {
	for _, n := range numbers() {
		for size := 0; size <= 8; size++ {
			want := n
			if size < 8 {
				want = n % (1 << (8 * size))
			}
			if got := Get(Put(n, size)); got != want {
				t.Errorf("Get(Put(%d, %d)) = %d, want %d", n, size, got, want)
			}
		}
	}
}

// 1.1: Get of fewer, of 8 and of more bytes.
func TestGetOfAnyLength(t *testing.T) {
	for length := 0; length <= 20; length++ {
		b := counted(length)
		first := make([]byte, 8)
		copy(first, b)
		if got, want := Get(b), binary.LittleEndian.Uint64(first); got != want {
			t.Errorf("Get of %d bytes = %d, want %d", length, got, want)
		}
	}
	if got := Get(nil); got != 0 {
		t.Errorf("Get(nil) = %d", got)
	}
	if got := Get(bytes.Repeat([]byte{255}, 9)); got != math.MaxUint64 {
		t.Errorf("Get of nine 255s = %d", got)
	}
	if got := Get([]byte{0, 0, 0, 0, 0, 0, 0, 128, 1}); got != 1<<63 {
		t.Errorf("Get of the highest bit = %d", got)
	}
}

// 1.1: what Pad lays where, for rows that are empty, shorter than most and as long.
func TestPadLays(t *testing.T) {
	for _, size := range []int{0, 1, 2, 3, 255, 256, 257, 59999, most} {
		for _, length := range []int{0, 1, 2, 254, 255, 256, 257, size - 1, size} {
			if length < 0 || length > size {
				continue
			}
			b := counted(length)
			want := append([]byte{byte(length), byte(length >> 8)}, b...)
			want = append(want, make([]byte, size-length)...)
			got, ok := Pad(b, size)
			if !ok || !bytes.Equal(got, want) {
				t.Errorf("Pad of %d bytes to %d: %t, %d bytes", length, size, ok, len(got))
			}
		}
	}
}

// 1.1: what Pad refuses, with nothing beside the false.
func TestPadRefuses(t *testing.T) {
	cases := []struct {
		length, most int
	}{
		{1, 0}, {3, 2}, {256, 255}, {257, 256}, {most, most - 1}, {most + 1, most}, {70000, most},
		{0, -1}, {1, -1}, {0, -2}, {0, most + 1}, {5, most + 1}, {0, 65535}, {0, 65536}, {most + 1, most + 1},
		{0, math.MinInt}, {0, math.MaxInt}, {0, math.MaxInt - 1}, {7, math.MinInt + 2},
	}
	for _, c := range cases {
		if got, ok := Pad(counted(c.length), c.most); ok || len(got) != 0 {
			t.Errorf("Pad of %d bytes to %d: %t, %d bytes", c.length, c.most, ok, len(got))
		}
	}
}

// 1.2: what is padded has one length, whatever it is.
func TestPaddedHasOneLength(t *testing.T) {
	for _, size := range []int{0, 1, 5, 300, most} {
		step := 1 + size/100
		for length := 0; length <= size; length += step {
			for _, b := range [][]byte{make([]byte, length), counted(length), bytes.Repeat([]byte{255}, length)} {
				if got, ok := Pad(b, size); !ok || len(got) != size+2 {
					t.Fatalf("Pad of %d bytes to %d: %t, %d bytes", length, size, ok, len(got))
				}
			}
		}
	}
}

// 1.1: Unpad is back from Pad, also of rows that end with noughts.
func TestUnpadIsBack(t *testing.T) {
	for _, size := range []int{0, 1, 2, 5, 256, 300, most} {
		for _, length := range []int{0, 1, 2, 5, 255, 256, 300, size - 1, size} {
			if length < 0 || length > size {
				continue
			}
			for _, b := range [][]byte{make([]byte, length), counted(length), bytes.Repeat([]byte{255}, length)} {
				padded, _ := Pad(b, size)
				if got, ok := Unpad(padded, size); !ok || !bytes.Equal(got, b) {
					t.Errorf("Unpad of Pad of %d bytes to %d: %t, %d bytes", length, size, ok, len(got))
				}
			}
		}
	}
}

// 1.1: Unpad tells each row of bytes that is Pad of none.
func TestUnpadRefuses(t *testing.T) {
	long, _ := Pad(counted(10), most)
	cases := []struct {
		name string
		b    []byte
		most int
	}{
		{"nothing", nil, 0},
		{"half a length", []byte{0}, 0},
		{"half a length, most below 0", []byte{0}, -1},
		{"nothing, most below 0", nil, -2},
		{"a byte too few", []byte{1, 0, 7}, 2},
		{"a byte too many", []byte{1, 0, 7, 0, 0}, 2},
		{"the least byte of the length too great", []byte{3, 0, 1, 1}, 2},
		{"the other byte of the length too great", []byte{2, 1, 1, 1}, 2},
		{"a length where nothing may stand", []byte{1, 0}, 0},
		{"the greatest length", []byte{255, 255, 0, 0}, 2},
		{"no nought right behind the row", []byte{1, 0, 7, 1, 0}, 3},
		{"no nought at the end", []byte{1, 0, 7, 0, 1}, 3},
		{"no nought behind nothing", []byte{0, 0, 0, 128}, 2},
		{"another most, greater", long, most - 1},
		{"another most, less", long[:most+1], most},
		{"most beyond its bounds", make([]byte, most+3), most + 1},
		{"most far beyond its bounds", make([]byte, 65538), 65536},
		{"the least most", nil, math.MinInt},
		{"the greatest most", nil, math.MaxInt},
		{"most + 2 wraps round", nil, math.MaxInt - 1},
	}
	for _, c := range cases {
		if got, ok := Unpad(c.b, c.most); ok || len(got) != 0 {
			t.Errorf("%s: %t, %v", c.name, ok, got)
		}
	}
	long[most+1] = 1
	if got, ok := Unpad(long, most); ok || len(got) != 0 {
		t.Errorf("no nought at the end of the longest: %t, %d bytes", ok, len(got))
	}
}

// 1.1: of all short rows of few bytes Unpad takes just those that Pad makes.
func TestUnpadTakesWhatPadMakes(t *testing.T) {
	for size := 0; size <= 3; size++ {
		row := make([]byte, size+2)
		var try func(at int)
		try = func(at int) {
			if at < len(row) {
				for x := range 5 {
					row[at] = byte(x)
					try(at + 1)
				}
				return
			}
			got, ok := Unpad(row, size)
			if ok {
				if back, ok := Pad(got, size); !ok || !bytes.Equal(back, row) {
					t.Errorf("Unpad(%v, %d) = %v, whose Pad is %v", row, size, got, back)
				}
				return
			}
			for length := 0; length <= size; length++ {
				if back, _ := Pad(row[2:2+length], size); bytes.Equal(back, row) {
					t.Errorf("Unpad(%v, %d) is false, but it is Pad of %v", row, size, row[2:2+length])
				}
			}
		}
		try(0)
	}
}

// 1.1: Sum of no parts, of one and of several.
func TestSum(t *testing.T) {
	known := []struct {
		text string
		want uint64
	}{{"", 14695981039346656037}, {"a", 0xaf63dc4c8601ec8c}, {"foobar", 0x85944171f73967e8}}
	for _, k := range known {
		if got := Sum([]byte(k.text)); got != k.want {
			t.Errorf("Sum(%q) = %x, want %x", k.text, got, k.want)
		}
	}
	if got := Sum(); got != 14695981039346656037 {
		t.Errorf("Sum() = %d", got)
	}
	if got := Sum(nil, []byte{}, nil); got != 14695981039346656037 {
		t.Errorf("Sum of empty parts = %d", got)
	}
	for _, length := range []int{1, 2, 8, 9, 300, 70000} {
		b := counted(length)
		h := fnv.New64a()
		h.Write(b)
		if got := Sum(b); got != h.Sum64() {
			t.Errorf("Sum of %d bytes = %x, want %x", length, got, h.Sum64())
		}
	}
}

// 1.1: wherever a row is parted, its Sum is the same; in another order it is another.
func TestSumOfParts(t *testing.T) {
	b := counted(12)
	want := Sum(b)
	for i := range len(b) + 1 {
		for j := i; j <= len(b); j++ {
			if got := Sum(b[:i], b[i:j], nil, b[j:]); got != want {
				t.Errorf("Sum parted at %d and %d = %x, want %x", i, j, got, want)
			}
		}
	}
	if Sum(b[5:], b[:5]) == want {
		t.Error("Sum does not hang on the order of its parts")
	}
	if Sum([]byte{0}) == Sum() || Sum([]byte{0}, []byte{0}) == Sum([]byte{0}) {
		t.Error("Sum leaves noughts out")
	}
}

// The document's rule 3: what is handed in stays as it is, spare room too, and no answer shares it.
func TestNothingHandedInIsChangedOrShared(t *testing.T) {
	room := counted(40)
	before := slices.Clone(room)
	row := room[:10]
	padded, _ := Pad(row, 20)
	Get(row)
	Sum(row, row)
	clear(padded[:cap(padded)])
	if !bytes.Equal(room, before) {
		t.Fatal("the row that was padded has changed")
	}
	for _, length := range []int{0, 3, 6} {
		room, _ := Pad(counted(length), 6)
		room = append(room, 9, 9, 9)
		before := slices.Clone(room)
		plain, ok := Unpad(room[:8], 6)
		if !ok {
			t.Fatal("not taken")
		}
		for i := range plain[:cap(plain)] {
			plain[:cap(plain)][i] ^= 255
		}
		if !bytes.Equal(room, before) {
			t.Errorf("Unpad of %d bytes shares what was handed in", length)
		}
	}
	one, other := Put(258, 2), Put(258, 2)
	clear(one[:cap(one)])
	if !bytes.Equal(other, []byte{2, 1}) {
		t.Error("two answers of Put share memory")
	}
}

// 1.3: whatever is handed in, no call panics.
func TestNoCallPanics(t *testing.T) {
	sizes := []int{math.MinInt, math.MinInt + 1, -60001, -3, -2, -1, 0, 1, 2, 7, 8, 9, most - 1, most, most + 1, 65535, 65536, 65537, math.MaxInt - 2, math.MaxInt - 1, math.MaxInt}
	rows := [][]byte{nil, {}, {0}, {255}, {0, 0}, {255, 255}, bytes.Repeat([]byte{255}, 9), make([]byte, most+1), bytes.Repeat([]byte{255}, most+2), make([]byte, 65538), make([]byte, 65539)}
	for _, size := range sizes {
		for _, n := range numbers() {
			Put(n, size)
		}
		for _, row := range rows {
			Pad(row, size)
			Unpad(row, size)
		}
	}
	for _, row := range rows {
		Get(row)
		Sum(row)
	}
	Sum(rows...)
	Sum(nil)
	Sum([][]byte(nil)...)
}
