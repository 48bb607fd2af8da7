package flot

import (
	"bytes"
	"encoding/binary"
	"math"
	"math/big"
	"slices"
	"testing"
)

const (
	nanBits = 0x7FF8000000000000
	least   = math.SmallestNonzeroFloat64
	normal  = 0x1p-1022 // the least number that has all its digits
)

func same(x, y float64) bool { return math.Float64bits(x) == math.Float64bits(y) }

func bits(x float64) uint64 { return math.Float64bits(x) }

// nans are NaNs of both signs, quiet and signalling, at the edges of their bits.
func nans() []float64 {
	var list []float64
	for _, b := range []uint64{
		nanBits, 0x7FF8000000000001, 0x7FF0000000000001, 0x7FF7FFFFFFFFFFFF, 0x7FFFFFFFFFFFFFFF, 0x7FF4000000000000,
		0xFFF8000000000000, 0xFFF8000000000001, 0xFFF0000000000001, 0xFFF7FFFFFFFFFFFF, 0xFFFFFFFFFFFFFFFF, 0xFFF0000100000000,
	} {
		list = append(list, math.Float64frombits(b))
	}
	return list
}

// rising are numbers from the least to the greatest, without a NaN.
func rising() []float64 {
	above := []float64{0, least, 2 * least, math.Nextafter(normal, 0), normal, math.Nextafter(normal, 1), 1e-300, 0.1, 0.2, 0.5, math.Nextafter(1, 0), 1, math.Nextafter(1, 2), 1.5, 2, 255, 256, 1e15, 0x1p53, 0x1p53 + 2, 1e300, math.Nextafter(math.MaxFloat64, 0), math.MaxFloat64, math.Inf(1)}
	var list []float64
	for _, x := range slices.Backward(above) {
		list = append(list, math.Copysign(x, -1))
	}
	return append(list, above...)
}

// scattered are n numbers whose bits are all of a plain rule's, NaNs and infinities among them only by chance.
func scattered(n int) []float64 {
	var list []float64
	state := uint64(88172645463325252)
	for range n {
		state ^= state << 13
		state ^= state >> 7
		state ^= state << 17
		list = append(list, math.Float64frombits(state))
	}
	return list
}

// everything is all of these.
func everything() []float64 {
	return slices.Concat(rising(), nans(), scattered(60))
}

// oneOf is x, or the one NaN.
func oneOf(x float64) float64 {
	if x != x {
		return math.Float64frombits(nanBits)
	}
	return x
}

// 5.1: Bytes tells the bits, the least first, and Of is back.
func TestBytesAndBack(t *testing.T) {
	for _, x := range append(rising(), scattered(2000)...) {
		x = oneOf(x)
		want := binary.LittleEndian.AppendUint64(nil, bits(x))
		if got := Bytes(x); !bytes.Equal(got, want) {
			t.Errorf("Bytes(%v) = %v, want %v", x, got, want)
		}
		if got := Of(want); !same(got, x) {
			t.Errorf("Of(%v) = %x, want %x", want, bits(got), bits(x))
		}
	}
}

// 5.1: numbers whose bytes are known.
func TestKnownBytes(t *testing.T) {
	known := []struct {
		x    float64
		want []byte
	}{
		{0, []byte{0, 0, 0, 0, 0, 0, 0, 0}},
		{math.Copysign(0, -1), []byte{0, 0, 0, 0, 0, 0, 0, 128}},
		{1, []byte{0, 0, 0, 0, 0, 0, 240, 63}},
		{-1, []byte{0, 0, 0, 0, 0, 0, 240, 191}},
		{0.1, []byte{154, 153, 153, 153, 153, 153, 185, 63}},
		{least, []byte{1, 0, 0, 0, 0, 0, 0, 0}},
		{math.MaxFloat64, []byte{255, 255, 255, 255, 255, 255, 239, 127}},
		{math.Inf(1), []byte{0, 0, 0, 0, 0, 0, 240, 127}},
		{math.Inf(-1), []byte{0, 0, 0, 0, 0, 0, 240, 255}},
		{math.NaN(), []byte{0, 0, 0, 0, 0, 0, 248, 127}},
	}
	for _, k := range known {
		if got := Bytes(k.x); !bytes.Equal(got, k.want) {
			t.Errorf("Bytes(%v) = %v, want %v", k.x, got, k.want)
		}
		if got := Of(k.want); !same(got, oneOf(k.x)) {
			t.Errorf("Of(%v) = %v, want %v", k.want, got, k.x)
		}
	}
}

// 5.1: there is one NaN, whichever comes in, and no number is taken for one.
func TestThereIsOneNaN(t *testing.T) {
	one := []byte{0, 0, 0, 0, 0, 0, 0xF8, 0x7F}
	for _, nan := range nans() {
		if got := Bytes(nan); !bytes.Equal(got, one) {
			t.Errorf("Bytes of the NaN %x = %v", bits(nan), got)
		}
		if got := Of(binary.LittleEndian.AppendUint64(nil, bits(nan))); bits(got) != nanBits {
			t.Errorf("Of the NaN %x = %x", bits(nan), bits(got))
		}
		for _, x := range everything() {
			if got := Add(nan, x); bits(got) != nanBits {
				t.Errorf("Add(NaN %x, %v) = %x", bits(nan), x, bits(got))
			}
			if got := Add(x, nan); bits(got) != nanBits {
				t.Errorf("Add(%v, NaN %x) = %x", x, bits(nan), bits(got))
			}
		}
	}
	for _, x := range rising() {
		if got := Bytes(x); bytes.Equal(got, one) {
			t.Errorf("Bytes(%v) are the NaN's", x)
		}
	}
}

// 5.1: of another length Of answers 0, and that above 0.
func TestOfAnotherLength(t *testing.T) {
	for length := range 40 {
		if length == 8 {
			continue
		}
		for _, x := range []byte{0, 63, 128, 255} {
			if got := Of(bytes.Repeat([]byte{x}, length)); !same(got, 0) {
				t.Errorf("Of %d bytes %d = %v", length, x, got)
			}
		}
	}
	if got := Of(nil); !same(got, 0) {
		t.Errorf("Of(nil) = %v", got)
	}
	if got := Of(make([]byte, 70000)); !same(got, 0) {
		t.Errorf("Of 70000 bytes = %v", got)
	}
}

// exactSum is the sum of two finite numbers, rounded once.
func exactSum(x, y float64) float64 {
	// From the greatest digit of a number to the least there are 2098.
	sum := new(big.Float).SetPrec(2200).SetFloat64(x)
	sum.Add(sum, new(big.Float).SetPrec(2200).SetFloat64(y))
	near, _ := sum.Float64()
	return near
}

// 5.1: Add of finite numbers is the exact sum, rounded once, infinite beyond the greatest.
func TestAddOfFiniteNumbers(t *testing.T) {
	for _, x := range everything() {
		for _, y := range everything() {
			if x-x != 0 || y-y != 0 || x == -y {
				continue
			}
			if got, want := Add(x, y), exactSum(x, y); !same(got, want) {
				t.Errorf("Add(%v, %v) = %v, want %v", x, y, got, want)
			}
		}
	}
}

// 5.1: Add where signs of zeros, infinities and bounds count.
func TestAddAtTheEdges(t *testing.T) {
	zero, inf, nan := math.Copysign(0, -1), math.Inf(1), math.Float64frombits(nanBits)
	cases := []struct{ x, y, want float64 }{
		{0, zero, 0}, {zero, 0, 0}, {0, 0, 0}, {zero, zero, zero},
		{1, -1, 0}, {-1, 1, 0}, {least, -least, 0}, {-math.MaxFloat64, math.MaxFloat64, 0},
		{zero, 1, 1}, {least, zero, least}, {zero, -least, -least},
		{inf, 1, inf}, {1, inf, inf}, {-inf, 1, -inf}, {inf, inf, inf}, {-inf, -inf, -inf}, {inf, -math.MaxFloat64, inf},
		{inf, -inf, nan}, {-inf, inf, nan},
		{math.MaxFloat64, math.MaxFloat64, inf}, {-math.MaxFloat64, -math.MaxFloat64, -inf}, {math.MaxFloat64, 1, math.MaxFloat64},
		{0.1, 0.2, 0.30000000000000004}, {0x1p53, 1, 0x1p53}, {0x1p53, 2, 0x1p53 + 2}, {0x1p53 + 2, 1, 0x1p53 + 4},
		{normal, -least, math.Nextafter(normal, 0)}, {least, least, 2 * least},
	}
	for _, c := range cases {
		if got := Add(c.x, c.y); !same(got, c.want) {
			t.Errorf("Add(%v, %v) = %v (%x), want %v", c.x, c.y, got, bits(got), c.want)
		}
	}
}

// 5.1: a product that is added is rounded ahead of the sum, also where a machine could do both at once.
func TestAddOfAProduct(t *testing.T) {
	for _, x := range []float64{0.1, 0.7, 1 + 0x1p-30, 1e10 / 3} {
		product := x * x
		if got := Add(x*x, -product); !same(got, 0) {
			t.Errorf("Add(x * x, -(x * x)) of %v = %v, want 0", x, got)
		}
	}
}

// 5.1: Less goes by the number, -0 ahead of 0, NaN behind all.
func TestLess(t *testing.T) {
	list := append(rising(), math.NaN())
	for i, x := range list {
		for k, y := range list {
			if got := Less(x, y); got != (i < k) {
				t.Errorf("Less(%v, %v) = %t", x, y, got)
			}
		}
	}
	for _, nan := range nans() {
		for _, x := range rising() {
			if Less(nan, x) || !Less(x, nan) {
				t.Errorf("the NaN %x is not behind %v", bits(nan), x)
			}
		}
		for _, other := range nans() {
			if Less(nan, other) {
				t.Errorf("the NaN %x is ahead of the NaN %x", bits(nan), bits(other))
			}
		}
	}
}

// 5.1: of any two numbers that Go holds to differ, Less tells what Go tells.
func TestLessIsAsGoHasIt(t *testing.T) {
	list := append(rising(), scattered(300)...)
	for _, x := range list {
		for _, y := range list {
			if (x < y || x > y) && Less(x, y) != (x < y) {
				t.Errorf("Less(%v, %v) = %t", x, y, Less(x, y))
			}
		}
	}
}

// reaches is Part's condition, exact and then rounded once, as a float64's product is.
func reaches(k, n int, f float64) bool {
	product := new(big.Float).SetPrec(53).SetInt64(int64(k))
	product.Mul(product, new(big.Float).SetPrec(53).SetFloat64(f))
	return product.Cmp(new(big.Float).SetInt64(int64(n))) >= 0
}

// checkPart holds Part(n, f), of arguments within their bounds, to the sentence.
func checkPart(t *testing.T, n int, f float64) {
	t.Helper()
	k, ok := Part(n, f)
	switch {
	case !ok && k != 0:
		t.Errorf("Part(%d, %v) = %d beside a false", n, f, k)
	case !ok && reaches(1<<40, n, f):
		t.Errorf("Part(%d, %v) is false, but 2^40 would do", n, f)
	case ok && (k < 0 || k > 1<<40):
		t.Errorf("Part(%d, %v) = %d, out of its bounds", n, f, k)
	case ok && !reaches(k, n, f):
		t.Errorf("Part(%d, %v) = %d, which is too little", n, f, k)
	case ok && k > 0 && reaches(k-1, n, f):
		t.Errorf("Part(%d, %v) = %d, but one less would do", n, f, k)
	}
}

// 5.1: Part of numbers all over its bounds.
func TestPartTellsTheLeast(t *testing.T) {
	parts := []float64{1, math.Nextafter(1, 0), 0.999, 0.9, 0.75, 0.7, 2.0 / 3, 0.5, math.Nextafter(0.5, 1), math.Nextafter(0.5, 0), 0.3, 1.0 / 3, 0.1, 0.01, 1e-6, 1e-7, 9e-7, 0x1p-20, 1e-12, 0x1p-39, 0x1p-40, math.Nextafter(0x1p-40, 0), math.Nextafter(0x1p-40, 1), 1e-13, 1e-100, normal, least}
	wholes := []int{0, 1, 2, 3, 4, 5, 6, 7, 8, 9, 10, 11, 12, 33, 63, 64, 65, 99, 100, 101, 1000, 65535, 65536, 333333, 524288, 999998, 999999, 1000000}
	for _, f := range parts {
		for _, n := range wholes {
			checkPart(t, n, f)
		}
	}
	for n := range 60 {
		for part := 1; part <= 50; part++ {
			checkPart(t, n, float64(part)/50)
		}
	}
}

// 5.1: Part of small numbers is what counting up from 0 comes to.
func TestPartIsWhatCountingComesTo(t *testing.T) {
	for n := range 40 {
		for part := 1; part <= 20; part++ {
			f, want := float64(part)/20, 0
			for float64(want)*f < float64(n) {
				want++
			}
			if got, ok := Part(n, f); !ok || got != want {
				t.Errorf("Part(%d, %v) = %d, %t, want %d", n, f, got, ok, want)
			}
		}
	}
}

// 5.1: Part where the product is rounded up to n, and at the bounds of n, of f and of k.
func TestPartAtTheEdges(t *testing.T) {
	cases := []struct {
		n    int
		f    float64
		want int
		ok   bool
	}{
		{7, 0.7, 10, true}, {3, 0.1, 30, true}, {1, 0.1, 10, true}, {1, 1.0 / 3, 3, true}, {6, 0.6, 10, true},
		{0, 1, 0, true}, {0, 0.5, 0, true}, {0, least, 0, true}, {0, 0x1p-41, 0, true},
		{1, 1, 1, true}, {1000000, 1, 1000000, true}, {1000000, 0.5, 2000000, true}, {999999, 1, 999999, true},
		{1, 0x1p-40, 1 << 40, true}, {1, math.Nextafter(0x1p-40, 0), 0, false}, {1, math.Nextafter(0x1p-40, 1), 1 << 40, true},
		{2, 0x1p-39, 1 << 40, true}, {2, 0x1p-40, 0, false},
		{1000000, 1000000 * 0x1p-40, 1 << 40, true}, {1000000, 999999 * 0x1p-40, 0, false},
		{1, least, 0, false}, {1000000, least, 0, false},
	}
	for _, c := range cases {
		if got, ok := Part(c.n, c.f); got != c.want || ok != c.ok {
			t.Errorf("Part(%d, %v) = %d, %t, want %d, %t", c.n, c.f, got, ok, c.want, c.ok)
		}
	}
}

// 5.1: what Part refuses, with nothing beside the false.
func TestPartRefuses(t *testing.T) {
	for _, n := range []int{-1, -2, -1000000, 1000001, 1000002, 1 << 32, 1<<32 + 1, 1 << 40, math.MaxInt32, math.MinInt32, math.MaxInt, math.MinInt} {
		for _, f := range []float64{1, 0.5, 0x1p-20, least} {
			if got, ok := Part(n, f); ok || got != 0 {
				t.Errorf("Part(%d, %v) = %d, %t", n, f, got, ok)
			}
		}
	}
	wrong := append(nans(), 0, math.Copysign(0, -1), -least, -0.5, -1, -2, math.Nextafter(1, 2), 1.5, 2, 1e300, math.MaxFloat64, math.Inf(1), math.Inf(-1))
	for _, f := range wrong {
		for _, n := range []int{0, 1, 5, 1000000, -1, 1000001} {
			if got, ok := Part(n, f); ok || got != 0 {
				t.Errorf("Part(%d, %v) = %d, %t", n, f, got, ok)
			}
		}
	}
}

// 5.2: what is added in one order comes to one number, kept in bytes in between or not, and whichever NaNs were among it.
func TestOneOrderComesToOneNumber(t *testing.T) {
	lists := [][]float64{
		rising(), scattered(200), everything(),
		{0.1, 0.2, 0.3, -0.6, 1e16, 1, 1, -1e16},
		{math.MaxFloat64, math.MaxFloat64, math.Inf(-1), 1, 2},
		{math.Copysign(0, -1), math.Copysign(0, -1)},
		{1, -1, math.Copysign(0, -1)},
		{math.Copysign(0, -1), nans()[11], 3},
	}
	for i, list := range lists {
		plain, kept, swapped := list[0], Bytes(list[0]), list[0]
		for at, x := range list[1:] {
			plain = Add(plain, x)
			kept = Bytes(Add(Of(kept), Of(Bytes(x))))
			if x != x {
				x = nans()[at%len(nans())]
			}
			swapped = Add(swapped, x)
			if !bytes.Equal(Bytes(plain), kept) || !same(Of(kept), plain) || !same(plain, swapped) {
				t.Fatalf("list %d, at %d: %x, %v, %x", i, at, bits(plain), kept, bits(swapped))
			}
		}
	}
}

// 5.2: an order is kept to: Add puts none of its own in its place.
func TestAnotherOrderMayComeToAnother(t *testing.T) {
	add := func(list ...float64) float64 {
		sum := 0.0
		for _, x := range list {
			sum = Add(sum, x)
		}
		return sum
	}
	if got := add(1e16, 1, -1e16); !same(got, 0) {
		t.Errorf("1e16 + 1 - 1e16 = %v", got)
	}
	if got := add(1e16, -1e16, 1); !same(got, 1) {
		t.Errorf("1e16 - 1e16 + 1 = %v", got)
	}
	if got := add(0.1, 0.2, 0.3); !same(got, 0.6000000000000001) {
		t.Errorf("0.1 + 0.2 + 0.3 = %v", got)
	}
	if got := add(0.3, 0.2, 0.1); !same(got, 0.6) {
		t.Errorf("0.3 + 0.2 + 0.1 = %v", got)
	}
}

// The document's rule 3: what is handed in stays as it is, spare room too, and answers are new memory.
func TestNothingHandedInIsChangedOrShared(t *testing.T) {
	for _, x := range everything() {
		room := append(binary.LittleEndian.AppendUint64(nil, bits(x)), 9, 9, 9, 9, 9, 9, 9, 9)
		before := slices.Clone(room)
		for length := range 17 {
			Of(room[:length])
		}
		if !bytes.Equal(room, before) {
			t.Fatalf("Of has changed the bytes of %v", x)
		}
		one, other := Bytes(x), Bytes(x)
		want := slices.Clone(other)
		for i := range one[:cap(one)] {
			one[:cap(one)][i] ^= 255
		}
		if !bytes.Equal(other, want) || !bytes.Equal(Bytes(x), want) {
			t.Fatalf("two answers of Bytes(%v) share memory", x)
		}
	}
}

// 5.3: whatever is handed in, no call panics, and each ends.
func TestNoCallPanics(t *testing.T) {
	wholes := []int{math.MinInt, math.MinInt + 1, -1000001, -1, 0, 1, 2, 999999, 1000000, 1000001, 1 << 40, 1<<40 + 1, math.MaxInt - 1, math.MaxInt}
	for _, x := range everything() {
		Bytes(x)
		for _, y := range everything() {
			Add(x, y)
			Less(x, y)
		}
		for _, n := range wholes {
			Part(n, x)
		}
	}
	for length := range 20 {
		Of(bytes.Repeat([]byte{255}, length))
	}
	Of(nil)
	Of([]byte{})
}
