package chac

import (
	"bytes"
	"encoding/binary"
	"encoding/hex"
	"math"
	"math/bits"
	"math/rand"
	"strings"
	"testing"
)

const last = math.MaxUint32

func fromHex(t *testing.T, s string) []byte {
	t.Helper()
	b, err := hex.DecodeString(strings.ReplaceAll(s, " ", ""))
	if err != nil {
		t.Fatal(err)
	}
	return b
}

// risingKey is the key of the examples of RFC 8439.
func risingKey() [32]byte {
	var key [32]byte
	for i := range key {
		key[i] = byte(i)
	}
	return key
}

func anyStream(r *rand.Rand) (key [32]byte, nonce [12]byte) {
	r.Read(key[:])
	r.Read(nonce[:])
	return key, nonce
}

// quarter is RFC 8439, 2.1, written out apart from the layer below.
func quarter(s *[16]uint32, a, b, c, d int) {
	s[a] += s[b]
	s[d] = bits.RotateLeft32(s[d]^s[a], 16)
	s[c] += s[d]
	s[b] = bits.RotateLeft32(s[b]^s[c], 12)
	s[a] += s[b]
	s[d] = bits.RotateLeft32(s[d]^s[a], 8)
	s[c] += s[d]
	s[b] = bits.RotateLeft32(s[b]^s[c], 7)
}

// blockBySentence is the chapter's sentence, apart from the layers below.
func blockBySentence(key [32]byte, nonce [12]byte, counter uint32) [64]byte {
	var first [64]byte
	copy(first[:], "expand 32-byte k")
	copy(first[16:], key[:])
	binary.LittleEndian.PutUint32(first[48:], counter)
	copy(first[52:], nonce[:])
	var was [16]uint32
	for i := range was {
		was[i] = binary.LittleEndian.Uint32(first[4*i:])
	}
	s := was
	for range 10 {
		for i := range 4 {
			quarter(&s, i, 4+i, 8+i, 12+i)
		}
		for i := range 4 {
			quarter(&s, i, 4+(i+1)%4, 8+(i+2)%4, 12+(i+3)%4)
		}
	}
	var block [64]byte
	for i := range s {
		binary.LittleEndian.PutUint32(block[4*i:], s[i]+was[i])
	}
	return block
}

// 3.1: Block, by the known answers of RFC 8439, 2.3.2 and A.1.
func TestBlockOfKnownKeys(t *testing.T) {
	for i, c := range []struct {
		key     [32]byte
		nonce   [12]byte
		counter uint32
		want    string
	}{
		{risingKey(), [12]byte{3: 9, 7: 0x4a}, 1,
			"10f1e7e4d13b5915500fdd1fa32071c4c7d1f4c733c068030422aa9ac3d46c4e" +
				"d2826446079faa0914c2d705d98b02a2b5129cd1de164eb9cbd083e8a2503c4e"},
		{[32]byte{}, [12]byte{}, 0,
			"76b8e0ada0f13d90405d6ae55386bd28bdd219b8a08ded1aa836efcc8b770dc7" +
				"da41597c5157488d7724e03fb8d84a376a43b8f41518a11cc387b669b2ee6586"},
		{[32]byte{}, [12]byte{}, 1,
			"9f07e7be5551387a98ba977c732d080dcb0f29a048e3656912c6533e32ee7aed" +
				"29b721769ce64e43d57133b074d839d531ed1f28510afb45ace10a1f4b794d6f"},
		{[32]byte{31: 1}, [12]byte{}, 1,
			"3aeb5224ecf849929b9d828db1ced4dd832025e8018b8160b82284f3c949aa5a" +
				"8eca00bbb4a73bdad192b5c42f73f2fd4e273644c8b36125a64addeb006c13a0"},
		{[32]byte{1: 0xff}, [12]byte{}, 2,
			"72d54dfbf12ec44b362692df94137f328fea8da73990265ec1bbbea1ae9af0ca" +
				"13b25aa26cb4a648cb9b9d1be65b2c0924a66c54d545ec1b7374f4872e99f096"},
		{[32]byte{}, [12]byte{11: 2}, 0,
			"c2c64d378cd536374ae204b9ef933fcd1a8b2288b3dfa49672ab765b54ee27c7" +
				"8a970e0e955c14f3a88e741b97c286f75f8fc299e8148362fa198a39531bed6d"},
	} {
		got := Block(c.key, c.nonce, c.counter)
		if !bytes.Equal(got[:], fromHex(t, c.want)) {
			t.Errorf("%d: %x", i, got)
		}
	}
}

// 3.1: Block, by its sentence, at counters that fill each byte and keys and nonces of all sorts.
func TestBlockBySentence(t *testing.T) {
	r := rand.New(rand.NewSource(3))
	counters := []uint32{0, 1, 0xff, 0x100, 0xffff, 0x10000, 0x7fffffff, 0x80000000, last - 1, last}
	for i := range 2000 {
		key, nonce := anyStream(r)
		counter := r.Uint32()
		if i < len(counters) {
			counter = counters[i]
		}
		if got, want := Block(key, nonce, counter), blockBySentence(key, nonce, counter); got != want {
			t.Fatalf("%x %x %d: %x, not %x", key, nonce, counter, got, want)
		}
	}
}

// 3.1: Block, with one bit set: each place of key, nonce and counter counts, each in its own way.
func TestBlockOfEachBit(t *testing.T) {
	seen := map[[64]byte]bool{}
	look := func(key [32]byte, nonce [12]byte, counter uint32) {
		got := Block(key, nonce, counter)
		if got != blockBySentence(key, nonce, counter) || seen[got] {
			t.Errorf("%x %x %d: %x", key, nonce, counter, got)
		}
		seen[got] = true
	}
	look([32]byte{}, [12]byte{}, 0)
	for bit := range 256 {
		var key [32]byte
		key[bit/8] = 1 << (bit % 8)
		look(key, [12]byte{}, 0)
	}
	for bit := range 96 {
		var nonce [12]byte
		nonce[bit/8] = 1 << (bit % 8)
		look([32]byte{}, nonce, 0)
	}
	for bit := range 32 {
		look([32]byte{}, [12]byte{}, 1<<bit)
	}
}

// 3.1: Xor, by the known answers of RFC 8439, 2.4.2 and A.2.
func TestXorOfKnownTexts(t *testing.T) {
	sunscreen := "Ladies and Gentlemen of the class of '99: If I could offer you only one tip for the future, sunscreen would be it."
	got, ok := Xor(risingKey(), [12]byte{7: 0x4a}, 1, []byte(sunscreen))
	want := fromHex(t, "6e2e359a2568f98041ba0728dd0d6981e97e7aec1d4360c20a27afccfd9fae0b"+
		"f91b65c5524733ab8f593dabcd62b3571639d624e65152ab8f530c359f0861d8"+
		"07ca0dbf500d6a6156a38e088a22b65e52bc514d16ccf806818ce91ab7793736"+
		"5af90bbf74a35be6b40b8eedf2785e42874d")
	if !ok || !bytes.Equal(got, want) {
		t.Errorf("%x, %v", got, ok)
	}

	jabber := "'Twas brillig, and the slithy toves\nDid gyre and gimble in the wabe:\nAll mimsy were the borogoves,\nAnd the mome raths outgrabe."
	var key [32]byte
	copy(key[:], fromHex(t, "1c9240a5eb55d38af333888604f6b5f0473917c1402b80099dca5cbc207075c0"))
	got, ok = Xor(key, [12]byte{11: 2}, 42, []byte(jabber))
	want = fromHex(t, "62e6347f95ed87a45ffae7426f27a1df5fb69110044c0d73118effa95b01e5cf"+
		"166d3df2d721caf9b21e5fb14c616871fd84c54f9d65b283196c7fe4f60553eb"+
		"f39c6402c42234e32a356b3e764312a61a5532055716ead6962568f87d3f3f77"+
		"04c6a8d1bcd1bf4d50d6154b6da731b187b58dfd728afa36757a797ac188d1")
	if !ok || !bytes.Equal(got, want) {
		t.Errorf("%x, %v", got, ok)
	}
}

// 3.1: Xor, by its sentence, of every length round the ends of blocks.
func TestXorBySentence(t *testing.T) {
	r := rand.New(rand.NewSource(33))
	for size := range 330 {
		key, nonce := anyStream(r)
		text := make([]byte, size)
		r.Read(text)
		for _, counter := range []uint32{0, 1, 254, 65534, 1<<31 - 2, last - 6} {
			want := make([]byte, size)
			for i := range want {
				block := blockBySentence(key, nonce, counter+uint32(i/64))
				want[i] = text[i] ^ block[i%64]
			}
			if got, ok := Xor(key, nonce, counter, text); !ok || !bytes.Equal(got, want) {
				t.Fatalf("size %d, counter %d: %x, %v", size, counter, got, ok)
			}
		}
	}
}

// 3.1: Xor of the largest text that a block of the device may hold.
func TestXorOfMuch(t *testing.T) {
	const size = 60000
	got, ok := Xor(risingKey(), [12]byte{1}, 7, make([]byte, size))
	if !ok || len(got) != size {
		t.Fatal(len(got), ok)
	}
	for at := 0; at < size; at += 64 {
		block := blockBySentence(risingKey(), [12]byte{1}, 7+uint32(at/64))
		if end := min(at+64, size); !bytes.Equal(got[at:end], block[:end-at]) {
			t.Fatal(at)
		}
	}
}

// 3.1: Xor is false where a counter beyond the last would be needed, and only there; beside false there is nothing.
func TestXorAtTheLastCounter(t *testing.T) {
	for _, c := range []struct {
		counter uint32
		size    int
		ok      bool
	}{
		{last, 0, true}, {last, 1, true}, {last, 63, true}, {last, 64, true},
		{last, 65, false}, {last, 128, false}, {last, 60000, false},
		{last - 1, 64, true}, {last - 1, 65, true}, {last - 1, 128, true}, {last - 1, 129, false},
		{last - 2, 192, true}, {last - 2, 193, false},
		{last - 937, 60000, true}, {last - 936, 60000, false},
		{0, 0, true}, {0, 60000, true}, {1 << 31, 60000, true},
	} {
		text := make([]byte, c.size)
		got, ok := Xor(risingKey(), [12]byte{2}, c.counter, text)
		if ok != c.ok || ok && len(got) != c.size || !ok && got != nil {
			t.Errorf("counter %d, size %d: %d bytes, %v", c.counter, c.size, len(got), ok)
		}
	}
}

// 3.1: the last Block is in the stream, and is not that of nought.
func TestXorByTheLastBlock(t *testing.T) {
	got, ok := Xor(risingKey(), [12]byte{2}, last-1, make([]byte, 128))
	want := blockBySentence(risingKey(), [12]byte{2}, last)
	if !ok || !bytes.Equal(got[64:], want[:]) {
		t.Errorf("%x, %v", got, ok)
	}
}

// 3.1, rule 1: Xor of nothing is nothing, of nil as of an empty list, at every counter.
func TestXorOfNothing(t *testing.T) {
	for _, counter := range []uint32{0, 1, last} {
		for _, nothing := range [][]byte{nil, {}, make([]byte, 0, 8)} {
			if got, ok := Xor(risingKey(), [12]byte{}, counter, nothing); len(got) != 0 || !ok {
				t.Errorf("counter %d: %x, %v", counter, got, ok)
			}
		}
	}
}

// 3.2, W4: what is sealed twice with one stream is open again; with another stream it is not.
func TestXorTwice(t *testing.T) {
	r := rand.New(rand.NewSource(32))
	for size := range 300 {
		key, nonce := anyStream(r)
		counter := r.Uint32() - 10
		text := make([]byte, size)
		r.Read(text)
		sealed, ok := Xor(key, nonce, counter, text)
		if !ok || size >= 16 && bytes.Equal(sealed, text) {
			t.Fatalf("size %d: %x, %v", size, sealed, ok)
		}
		if open, ok := Xor(key, nonce, counter, sealed); !ok || !bytes.Equal(open, text) {
			t.Fatalf("size %d: %x, %v", size, open, ok)
		}
		if size < 16 {
			continue
		}
		otherKey, otherNonce := key, nonce
		otherKey[31] ^= 1
		otherNonce[11] ^= 1
		for i, wrong := range [][]byte{
			first(Xor(otherKey, nonce, counter, sealed)),
			first(Xor(key, otherNonce, counter, sealed)),
			first(Xor(key, nonce, counter+1, sealed)),
		} {
			if len(wrong) != size || bytes.Equal(wrong, text) {
				t.Fatalf("size %d, stream %d: %x", size, i, wrong)
			}
		}
	}
}

func first(b []byte, ok bool) []byte {
	return b
}

// Rule 3: what is handed in is not changed, nor its spare room, and what is answered is new memory.
func TestXorSharesNothing(t *testing.T) {
	for _, size := range []int{0, 1, 63, 64, 65, 130} {
		room := bytes.Repeat([]byte{0xaa}, size+70)
		text := room[:size]
		got, ok := Xor(risingKey(), [12]byte{3}, 5, text)
		if !ok || !bytes.Equal(room, bytes.Repeat([]byte{0xaa}, size+70)) {
			t.Fatalf("size %d: %x, %v", size, room, ok)
		}
		for i := range got[:cap(got)] {
			got[:cap(got)][i] = 0x55
		}
		if !bytes.Equal(room, bytes.Repeat([]byte{0xaa}, size+70)) {
			t.Errorf("size %d: the answer is a piece of what was handed in", size)
		}
		room = bytes.Repeat([]byte{0x11}, size+70)
		again, _ := Xor(risingKey(), [12]byte{3}, 5, room[:size])
		other, _ := Xor(risingKey(), [12]byte{3}, 5, room[:size])
		for i := range again {
			again[i] ^= 0xff
		}
		if size > 0 && bytes.Equal(again, other) {
			t.Errorf("size %d: two answers are one memory", size)
		}
	}
}

// 3.3: no call panics, whatever it is given.
func TestNoCallPanics(t *testing.T) {
	full := bytes.Repeat([]byte{0xff}, 64)
	for _, key := range [][32]byte{{}, [32]byte(full), risingKey()} {
		for _, nonce := range [][12]byte{{}, [12]byte(full)} {
			for _, counter := range []uint32{0, 1, 1 << 31, last - 1, last} {
				Block(key, nonce, counter)
				for _, text := range [][]byte{nil, {}, full[:1], full[:63], full, make([]byte, 65), make([]byte, 129), make([]byte, 100000)} {
					Xor(key, nonce, counter, text)
				}
			}
		}
	}
}
