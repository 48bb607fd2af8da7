// Package le tells numbers and padded texts in bytes, the least byte first: chapter 1 of the document.
package le

import "dumbwaiter/api"

const (
	numberSize = 8 // the bytes of the greatest number
	lengthSize = 2 // the bytes ahead of a padded text that tell its length
)

// The start and the factor of the 64-bit FNV-1a number.
const (
	sumStart  uint64 = 14695981039346656037
	sumFactor uint64 = 1099511628211
)

// Put answers the lowest size bytes of n, the least first; none, if size is not 0 to 8.
func Put(n uint64, size int) []byte {
	if size < 0 || size > numberSize {
		return nil
	}
	b := make([]byte, size)
	for i := range b {
		b[i] = byte(n)
		n >>= 8
	}
	return b
}

// Get answers the number whose bytes are the first 8 of b, or as many as there are.
func Get(b []byte) uint64 {
	n := uint64(0)
	for i := min(len(b), numberSize) - 1; i >= 0; i-- {
		n = n<<8 | uint64(b[i])
	}
	return n
}

// Pad answers b's length, b and noughts, most + 2 bytes in all; false, if b is longer than most or most is out of its bounds.
func Pad(b []byte, most int) ([]byte, bool) {
	if !canPad(most) || len(b) > most {
		return nil, false
	}
	padded := make([]byte, lengthSize+most)
	copy(padded, Put(uint64(len(b)), lengthSize))
	copy(padded[lengthSize:], b)
	return padded, true
}

// Unpad answers the bytes of which b is Pad with that most; false, if there are none.
func Unpad(b []byte, most int) ([]byte, bool) {
	if !canPad(most) || len(b) != lengthSize+most {
		return nil, false
	}
	// A length of two bytes may tell more than there is.
	length, rest := Get(b[:lengthSize]), b[lengthSize:]
	if length > uint64(len(rest)) || !allNought(rest[length:]) {
		return nil, false
	}
	// Not slices.Clone: of an empty row that answers a piece of b itself.
	plain := make([]byte, length)
	copy(plain, rest)
	return plain, true
}

// Sum answers the 64-bit FNV-1a number of all parts one behind the other.
func Sum(parts ...[]byte) uint64 {
	sum := sumStart
	for _, part := range parts {
		for _, x := range part {
			sum = (sum ^ uint64(x)) * sumFactor
		}
	}
	return sum
}

// canPad tells if texts may be padded to most bytes: no block holds more than MaxSize, and two bytes tell each length up to that.
func canPad(most int) bool {
	return most >= 0 && most <= api.MaxSize
}

func allNought(b []byte) bool {
	for _, x := range b {
		if x != 0 {
			return false
		}
	}
	return true
}
