package seal

import (
	"bytes"
	"encoding/binary"
	"encoding/hex"
	"hash/fnv"
	"math"
	"math/rand"
	"testing"

	"dumbwaiter/chac"
)

const (
	lastBoot = math.MaxUint32
	lastSeq  = math.MaxUint64
	greatest = 60022 // the size whose room is the most that is padded
)

// risingKey is a key of which no byte is as another.
func risingKey() [32]byte {
	var key [32]byte
	for i := range key {
		key[i] = byte(i)
	}
	return key
}

// rising answers n bytes, none of the first 255 of them 0.
func rising(n int) []byte {
	b := make([]byte, n)
	for i := range b {
		b[i] = byte(i%255 + 1)
	}
	return b
}

// headBySentence is the nonce, apart from the layers below.
func headBySentence(boot uint32, seq uint64) (head [12]byte) {
	binary.LittleEndian.PutUint32(head[:], boot)
	binary.LittleEndian.PutUint64(head[4:], seq)
	return head
}

// wrap answers the block whose padded text is padded, be it one or not, with the right sum.
func wrap(key [32]byte, boot uint32, seq uint64, padded []byte) []byte {
	head := headBySentence(boot, seq)
	sum := fnv.New64a()
	sum.Write(head[:])
	sum.Write(padded)
	inner := binary.LittleEndian.AppendUint64(bytes.Clone(padded), sum.Sum64())
	for i := range inner {
		block := chac.Block(key, head, uint32(i/64))
		inner[i] ^= block[i%64]
	}
	return append(head[:], inner...)
}

// padBySentence is a text's length, the text and noughts.
func padBySentence(length int, plain []byte, room int) []byte {
	padded := make([]byte, 2+room)
	binary.LittleEndian.PutUint16(padded, uint16(length))
	copy(padded[2:], plain)
	return padded
}

func sealBySentence(key [32]byte, boot uint32, seq uint64, plain []byte, size int) []byte {
	return wrap(key, boot, seq, padBySentence(len(plain), plain, size-22))
}

func mustSeal(t *testing.T, key [32]byte, boot uint32, seq uint64, plain []byte, size int) []byte {
	t.Helper()
	b, ok := Seal(key, boot, seq, plain, size)
	if !ok || len(b) != size {
		t.Fatalf("%d bytes in %d: %d, %v", len(plain), size, len(b), ok)
	}
	return b
}

// opens tells if b opens to plain, boot and seq.
func opens(t *testing.T, key [32]byte, b, plain []byte, boot uint32, seq uint64) {
	t.Helper()
	got, gotBoot, gotSeq, ok := Open(key, b)
	if !ok || !bytes.Equal(got, plain) || gotBoot != boot || gotSeq != seq {
		t.Fatalf("%x: %x, %d, %d, %v", b, got, gotBoot, gotSeq, ok)
	}
}

// closed tells if b does not open, and that nothing stands beside the false.
func closed(t *testing.T, key [32]byte, b []byte) {
	t.Helper()
	if got, boot, seq, ok := Open(key, b); len(got) != 0 || boot != 0 || seq != 0 || ok {
		t.Fatalf("%d bytes: %x, %d, %d, %v", len(b), got, boot, seq, ok)
	}
}

func boots() []uint32 {
	return []uint32{0, 1, 0xff, 0x100, 0xffff, 0x10000, 0x01020304, 1 << 31, lastBoot}
}

func seqs() []uint64 {
	return []uint64{0, 1, 0xff, 0x100, math.MaxUint32, 1 << 32, 0x05060708090a0b0c, 1 << 63, lastSeq}
}

// sizes are those at the ends of the stream's blocks, with the least and the greatest that are sealed.
func sizes() []int {
	return []int{22, 23, 24, 64, 75, 76, 77, 139, 140, 141, 1000, greatest - 1, greatest}
}

// 7.1: Head is boot and seq, the least first, and no two are the same.
func TestHeads(t *testing.T) {
	if got := Head(0x01020304, 0x05060708090a0b0c); got != [12]byte{4, 3, 2, 1, 12, 11, 10, 9, 8, 7, 6, 5} {
		t.Error(got)
	}
	seen := map[[12]byte]bool{}
	for _, boot := range boots() {
		for _, seq := range seqs() {
			got := Head(boot, seq)
			if got != headBySentence(boot, seq) || seen[got] {
				t.Errorf("%d %d: %x", boot, seq, got)
			}
			seen[got] = true
		}
	}
}

// 7.1: Room is 22 less, below 0 too.
func TestRooms(t *testing.T) {
	for size, want := range map[int]int{22: 0, 23: 1, 100: 78, 21: -1, 0: -22, -1: -23, greatest: 60000,
		math.MaxInt: math.MaxInt - 22, math.MinInt + 22: math.MinInt} {
		if got := Room(size); got != want {
			t.Error(size, got)
		}
	}
}

// 7.1: Seal, by blocks that were made apart from this program.
func TestSealOfKnownBlocks(t *testing.T) {
	for _, c := range []struct {
		key   [32]byte
		boot  uint32
		seq   uint64
		plain []byte
		size  int
		want  string
	}{
		{risingKey(), 1, 2, nil, 22, "01000000020000000000000078a8b4c7bc00c9fb421e"},
		{risingKey(), 0x01020304, 0x05060708090a0b0c, []byte("dumbwaiter"), 40,
			"040302010c0b0a0908070605aa9dbca8a462929593b5e64544b74b469ef100914133775cb7c85186"},
		{[32]byte{}, lastBoot, lastSeq, rising(60), 100,
			"ffffffffffffffffffffffff707ac9d5680255699e40b36d30268361aab7bdfc2d4aeb5142f466af9d28f16892a4" +
				"12564f8808b792ecc718077146348a76b714628a99bec9f1277b2f686950bece28efa4d7461f55093eaf4330c907" +
				"4dfac63972f33f0c"},
	} {
		got := mustSeal(t, c.key, c.boot, c.seq, c.plain, c.size)
		if hex.EncodeToString(got) != c.want {
			t.Errorf("%x", got)
		}
		opens(t, c.key, got, c.plain, c.boot, c.seq)
	}
}

// 7.1: Seal, by its sentence, and Open back, at each size's edges of room.
func TestSealBySentence(t *testing.T) {
	for _, size := range sizes() {
		room := size - 22
		for _, n := range []int{0, 1, 2, room / 2, room - 1, room} {
			if n < 0 || n > room {
				continue
			}
			plain := rising(n)
			got := mustSeal(t, risingKey(), 5, 6, plain, size)
			if !bytes.Equal(got, sealBySentence(risingKey(), 5, 6, plain, size)) {
				t.Errorf("%d bytes in %d: %x", n, size, got)
			}
			opens(t, risingKey(), got, plain, 5, 6)
		}
	}
}

// 7.1: Seal and Open, with each boot and seq, of keys and texts of all sorts, noughts at their ends too.
func TestSealAndOpen(t *testing.T) {
	r := rand.New(rand.NewSource(7))
	for i := range 2000 {
		var key [32]byte
		r.Read(key[:])
		boot, seq := boots()[i%len(boots())], seqs()[r.Intn(len(seqs()))]
		room := r.Intn(200)
		plain := make([]byte, r.Intn(room+1))
		if i%3 > 0 {
			r.Read(plain)
		}
		got := mustSeal(t, key, boot, seq, plain, room+22)
		if !bytes.Equal(got, sealBySentence(key, boot, seq, plain, room+22)) {
			t.Fatalf("%x", got)
		}
		opens(t, key, got, plain, boot, seq)
	}
}

// 7.1: nothing is sealed that has no room, nor in a block of no room, nor in one beyond all that is padded.
func TestSealWithoutRoom(t *testing.T) {
	for _, c := range []struct{ length, size int }{
		{1, 22}, {2, 23}, {79, 100}, {200, 100}, {60001, greatest}, {70000, greatest},
		{0, 21}, {0, 14}, {0, 12}, {0, 1}, {0, 0}, {0, -1}, {5, 21}, {0, math.MinInt}, {1, math.MinInt + 22},
		{0, greatest + 1}, {60001, greatest + 1}, {0, 1 << 20}, {0, math.MaxInt},
	} {
		if got, ok := Seal(risingKey(), 1, 2, make([]byte, c.length), c.size); len(got) != 0 || ok {
			t.Errorf("%d bytes in %d: %d, %v", c.length, c.size, len(got), ok)
		}
	}
}

// 7.1: Open answers false of blocks whose sum is right, but whose rest no text pads to.
func TestOpenOfWhatIsNotPadded(t *testing.T) {
	key := risingKey()
	opens(t, key, wrap(key, 1, 2, padBySentence(3, []byte{1, 2, 3}, 5)), []byte{1, 2, 3}, 1, 2)
	for _, padded := range [][]byte{
		padBySentence(2, []byte{1, 2, 3}, 5),
		padBySentence(0, []byte{0, 0, 0, 0, 1}, 5),
		padBySentence(6, nil, 5),
		padBySentence(0xffff, nil, 5),
		padBySentence(1, nil, 0),
		padBySentence(0, nil, greatest-21),
		{0}, {},
	} {
		closed(t, key, wrap(key, 1, 2, padded))
	}
}

// 7.2: what is sealed in one size has one length, whatever it is, and what is seen of it but the head hangs on each of key, boot and seq.
func TestOneLength(t *testing.T) {
	key := risingKey()
	for _, size := range sizes()[:11] {
		for n := range size - 21 {
			mustSeal(t, key, 1, 2, rising(n), size)
		}
	}
	seen := map[string]bool{}
	for _, boot := range boots() {
		for _, seq := range seqs() {
			b := mustSeal(t, key, boot, seq, []byte("x"), 64)
			other := mustSeal(t, [32]byte{1}, boot, seq, []byte("x"), 64)
			if seen[string(b[12:])] || seen[string(other[12:])] {
				t.Error(boot, seq)
			}
			seen[string(b[12:])], seen[string(other[12:])] = true, true
		}
	}
}

// 7.2: a block with any bit changed, or any byte garbled, is told.
func TestGarbledBlocks(t *testing.T) {
	key := risingKey()
	for _, size := range []int{22, 23, 64, 90} {
		for _, n := range []int{0, (size - 22) / 2, size - 22} {
			b := mustSeal(t, key, 3, 4, rising(n), size)
			for i := range b {
				for _, change := range []byte{1, 2, 4, 8, 16, 32, 64, 128, 165, 255} {
					b[i] ^= change
					closed(t, key, b)
					b[i] ^= change
				}
			}
			opens(t, key, b, rising(n), 3, 4)
			for i := range b {
				b[i] ^= 165
			}
			closed(t, key, b)
		}
	}
}

// 7.2: a block that is longer or shorter, under another key, or with another's head, is told.
func TestBlocksOfOtherShape(t *testing.T) {
	key := risingKey()
	b := mustSeal(t, key, 3, 4, rising(20), 80)
	for n := range b {
		closed(t, key, b[:n])
		if n > 0 {
			closed(t, key, b[n:])
		}
	}
	closed(t, key, append(bytes.Clone(b), 0))
	closed(t, key, append(bytes.Clone(b), b...))
	for i := range key {
		other := key
		other[i] ^= 1
		closed(t, other, b)
	}
	c := mustSeal(t, key, 3, 5, rising(20), 80)
	closed(t, key, append(bytes.Clone(c[:12]), b[12:]...))
	closed(t, key, append(bytes.Clone(b[:70]), c[70:]...))
}

// 7.2: what was never written is told.
func TestNoughtsAreNoBlock(t *testing.T) {
	for _, key := range [][32]byte{{}, risingKey()} {
		closed(t, key, nil)
		for n := range 300 {
			closed(t, key, make([]byte, n))
		}
		closed(t, key, make([]byte, greatest))
		closed(t, key, make([]byte, greatest+1))
	}
}

// 7.3: no call panics, whatever it is given.
func TestNoCallPanics(t *testing.T) {
	ends := []int{math.MinInt, math.MinInt + 21, math.MinInt + 22, -1, 0, 11, 12, 13, 14, 20, 21, 22, 23, 64,
		greatest, greatest + 1, math.MaxInt - 1, math.MaxInt}
	for _, size := range ends {
		Room(size)
		for _, plain := range [][]byte{nil, {}, {1}, rising(42), rising(60000), rising(60001), rising(1 << 17)} {
			b, _ := Seal([32]byte{}, lastBoot, lastSeq, plain, size)
			Open([32]byte{}, b)
			Open([32]byte{}, plain)
		}
	}
	r := rand.New(rand.NewSource(73))
	for range 5000 {
		b := make([]byte, r.Intn(150))
		r.Read(b)
		closed(t, risingKey(), b)
	}
}

// 7.1: what is handed in is not changed nor shared, nor the spare room behind it, nor are answers shared.
func TestNothingHandedInIsChangedOrShared(t *testing.T) {
	key := risingKey()
	for _, n := range []int{0, 10, 42} {
		long := rising(100)
		first := mustSeal(t, key, 1, 2, long[:n], 64)
		spoil(first)
		if !bytes.Equal(long, rising(100)) {
			t.Error(n, "plain is changed")
		}
		whole := append(mustSeal(t, key, 1, 2, long[:n], 64), rising(100)...)
		was := bytes.Clone(whole)
		plain, _, _, _ := Open(key, whole[:64])
		spoil(plain)
		if !bytes.Equal(whole, was) {
			t.Error(n, "the block is changed")
		}
		opens(t, key, whole[:64], long[:n], 1, 2)
	}
}

// spoil changes a row and its spare room.
func spoil(b []byte) {
	b = b[:cap(b)]
	for i := range b {
		b[i] ^= 255
	}
}
