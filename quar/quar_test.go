package quar

import (
	"math"
	"math/rand"
	"testing"
)

// turned is a turn to the left, written out apart from the package's own.
func turned(n uint32, by uint) uint32 {
	return uint32((uint64(n)<<by)%(1<<32)) | n>>(32-by)
}

// roundOf is the chapter's sentence, step by step.
func roundOf(q [4]uint32) [4]uint32 {
	a, b, c, d := q[0], q[1], q[2], q[3]
	a = a + b
	d = turned(d^a, 16)
	c = c + d
	b = turned(b^c, 12)
	a = a + b
	d = turned(d^a, 8)
	c = c + d
	b = turned(b^c, 7)
	return [4]uint32{a, b, c, d}
}

// doubleOf is the chapter's sentence, with the places written out once more.
func doubleOf(s [16]uint32) [16]uint32 {
	places := "\x00\x04\x08\x0c\x01\x05\x09\x0d\x02\x06\x0a\x0e\x03\x07\x0b\x0f" +
		"\x00\x05\x0a\x0f\x01\x06\x0b\x0c\x02\x07\x08\x0d\x03\x04\x09\x0e"
	for at := 0; at < len(places); at += 4 {
		var q [4]uint32
		for i := range q {
			q[i] = s[places[at+i]]
		}
		q = roundOf(q)
		for i := range q {
			s[places[at+i]] = q[i]
		}
	}
	return s
}

// edges are numbers at which sums wrap round and turns carry bits over.
func edges() []uint32 {
	return []uint32{0, 1, 2, 0x80, 0xffff, 0x10000, 0x7fffffff, 0x80000000, 0x80000001, 0xfffffffe, math.MaxUint32}
}

// states are the edges in all places, one bit in each place, and many that are mixed.
func states() [][16]uint32 {
	var list [][16]uint32
	for _, x := range edges() {
		var s [16]uint32
		for i := range s {
			s[i] = x
		}
		list = append(list, s)
	}
	for bit := range 512 {
		var s [16]uint32
		s[bit/32] = 1 << (bit % 32)
		list = append(list, s)
	}
	r := rand.New(rand.NewSource(2))
	for range 2000 {
		var s [16]uint32
		for i := range s {
			s[i] = r.Uint32()
		}
		list = append(list, s)
	}
	return list
}

// 2.1: Round, by what is known of it.
func TestRoundOfKnownNumbers(t *testing.T) {
	for _, c := range []struct{ in, out [4]uint32 }{
		{[4]uint32{0, 0, 0, 0}, [4]uint32{0, 0, 0, 0}},
		// RFC 8439, 2.1.1 and 2.2.1
		{[4]uint32{0x11111111, 0x01020304, 0x9b8d6f43, 0x01234567}, [4]uint32{0xea2a92f4, 0xcb1cf8ce, 0x4581472e, 0x5881c4bb}},
		{[4]uint32{0x516461b1, 0x2a5f714c, 0x53372767, 0x3d631689}, [4]uint32{0xbdb886dc, 0xcfacafd2, 0xe46bea80, 0xccc07c79}},
	} {
		var got [4]uint32
		got[0], got[1], got[2], got[3] = Round(c.in[0], c.in[1], c.in[2], c.in[3])
		if got != c.out {
			t.Errorf("Round of %x = %x, want %x", c.in, got, c.out)
		}
	}
}

// 2.1: Round, at each meeting of edges.
func TestRoundIsItsSentence(t *testing.T) {
	for _, a := range edges() {
		for _, b := range edges() {
			for _, c := range edges() {
				for _, d := range edges() {
					in := [4]uint32{a, b, c, d}
					var got [4]uint32
					got[0], got[1], got[2], got[3] = Round(a, b, c, d)
					if want := roundOf(in); got != want {
						t.Fatalf("Round of %x = %x, want %x", in, got, want)
					}
				}
			}
		}
	}
}

// 2.1: ten Doubles are the rounds of RFC 8439, 2.3.2.
func TestTenDoublesOfAKnownState(t *testing.T) {
	s := [16]uint32{
		0x61707865, 0x3320646e, 0x79622d32, 0x6b206574,
		0x03020100, 0x07060504, 0x0b0a0908, 0x0f0e0d0c,
		0x13121110, 0x17161514, 0x1b1a1918, 0x1f1e1d1c,
		0x00000001, 0x09000000, 0x4a000000, 0x00000000,
	}
	want := [16]uint32{
		0x837778ab, 0xe238d763, 0xa67ae21e, 0x5950bb2f,
		0xc4f2d0c7, 0xfc62bb2f, 0x8fa018fc, 0x3f5ec7b7,
		0x335271c2, 0xf29489f3, 0xeabda8fc, 0x82e46ebd,
		0xd19c12b4, 0xb04e16de, 0x9e83d0cb, 0x4e3c50a2,
	}
	got := s
	for range 10 {
		got = Double(got)
	}
	if got != want {
		t.Errorf("ten Doubles = %x, want %x", got, want)
	}
	for range 10 {
		got = Back(got)
	}
	if got != s {
		t.Errorf("ten Backs = %x, want %x", got, s)
	}
}

// 2.1: Double, place by place.
func TestDoubleIsItsSentence(t *testing.T) {
	for _, s := range states() {
		was := s
		if got, want := Double(s), doubleOf(s); got != want {
			t.Fatalf("Double of %x = %x, want %x", s, got, want)
		}
		if s != was {
			t.Fatalf("Double changed %x to %x", was, s)
		}
	}
}

// 2.1, 2.2: Back is back from Double, and Double from Back: so each state is Double of one other, and of one alone.
func TestBackIsTheOtherWayRound(t *testing.T) {
	for _, s := range states() {
		was := s
		if got := Back(Double(s)); got != s {
			t.Fatalf("Back of Double of %x = %x", s, got)
		}
		if got := Double(Back(s)); got != s {
			t.Fatalf("Double of Back of %x = %x", s, got)
		}
		if s != was {
			t.Fatalf("a call changed %x to %x", was, s)
		}
	}
}

// 2.2: no two states come to one, and no two rounds of numbers.
func TestNoTwoStatesComeToOne(t *testing.T) {
	seen, backs := map[[16]uint32][16]uint32{}, map[[16]uint32][16]uint32{}
	for _, s := range states() {
		d, b := Double(s), Back(s)
		if other, ok := seen[d]; ok && other != s {
			t.Fatalf("Double of %x and of %x is %x", s, other, d)
		}
		if other, ok := backs[b]; ok && other != s {
			t.Fatalf("Back of %x and of %x is %x", s, other, b)
		}
		seen[d], backs[b] = s, s
	}
	rounds := map[[4]uint32]bool{}
	for n := range uint32(1 << 16) {
		// Each of the four takes the bits at which Round turns.
		var q [4]uint32
		q[0], q[1], q[2], q[3] = Round(n&15<<28|n&15, n>>4&15<<14, n>>8&15<<18, n>>12&15<<22)
		if rounds[q] {
			t.Fatalf("two rounds come to %x", q)
		}
		rounds[q] = true
	}
}

// 2.3: no call panics, at no edge.
func TestNoCallPanics(t *testing.T) {
	defer func() {
		if p := recover(); p != nil {
			t.Errorf("panic: %v", p)
		}
	}()
	for _, x := range edges() {
		Round(x, x, x, x)
	}
	for _, s := range states() {
		Double(s)
		Back(s)
	}
}
