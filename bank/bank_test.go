package bank

import (
	"bytes"
	"math"
	"math/rand"
	"slices"
	"strconv"
	"strings"
	"testing"

	"dumbwaiter/api"
	"dumbwaiter/disk"
	"dumbwaiter/pen"
	"dumbwaiter/seal"
)

const (
	least = 22     // the size of the least blocks that have room for a plain, the empty one alone
	begun = 7      // the boot of the pens
	most  = 100000 // the places of the greatest bank
)

// key is one of which no byte is as another.
func key() [32]byte {
	var key [32]byte
	for i := range key {
		key[i] = byte(i + 1)
	}
	return key
}

// device is a new device, with a pen for it.
func device(blocks, size int) (*disk.Disk, *pen.Pen) {
	d := disk.New(blocks, size)
	return d, pen.New(d, key(), begun)
}

// packed is which as State tells it, apart from the program: a digit for each place, the first place's first.
func packed(which string) []byte {
	var state []byte
	for len(which) > 0 {
		digits := []byte(which[:min(8, len(which))])
		which = which[len(digits):]
		slices.Reverse(digits)
		n, err := strconv.ParseUint(string(digits), 2, 8)
		if err != nil {
			panic(err)
		}
		state = append(state, byte(n))
	}
	return state
}

// holding tells if State tells which.
func holding(t *testing.T, b *Bank, which string) {
	t.Helper()
	if got := b.State(); !bytes.Equal(got, packed(which)) {
		t.Fatalf("State %08b, want %s", got, which)
	}
}

// reads tells if plain is what Read answers.
func reads(t *testing.T, b *Bank, i int, plain string) {
	t.Helper()
	if got, ok := b.Read(i); string(got) != plain || !ok {
		t.Errorf("place %d: %q, %t, want %q", i, got, ok, plain)
	}
}

// none tells if Read answers false, and that nothing stands beside it.
func none(t *testing.T, b *Bank, i int) {
	t.Helper()
	if got, ok := b.Read(i); len(got) != 0 || ok {
		t.Errorf("place %d: %q, %t", i, got, ok)
	}
}

// writes tells if plain is written in place i.
func writes(t *testing.T, b *Bank, i int, plain string) {
	t.Helper()
	if !b.Write(i, []byte(plain)) {
		t.Fatalf("%d bytes in place %d were not written", len(plain), i)
	}
}

// refuses tells if plain is not written in place i.
func refuses(t *testing.T, b *Bank, i int, plain string) {
	t.Helper()
	if b.Write(i, []byte(plain)) {
		t.Errorf("%d bytes in place %d were written", len(plain), i)
	}
}

// loads tells if which is loaded.
func loads(t *testing.T, b *Bank, which string) {
	t.Helper()
	if !b.Load(packed(which)) {
		t.Fatalf("%s was not loaded", which)
	}
	holding(t, b, which)
}

// checkTrace tells if want, kinds and places in turn, is all that was done behind the first events.
func checkTrace(t *testing.T, what string, d *disk.Disk, behind int, want ...int) {
	t.Helper()
	events := d.Trace()[behind:]
	if len(events) != len(want)/2 {
		t.Fatalf("%s: %d events, want %d", what, len(events), len(want)/2)
	}
	for i, e := range events {
		if e.Kind != want[2*i] || e.At != want[2*i+1] {
			t.Errorf("%s: event %d is %d at %d, want %v", what, i, e.Kind, e.At, want)
		}
	}
}

// needsNoPower tells if call does nothing on the device.
func needsNoPower(t *testing.T, d *disk.Disk, what string, call func()) {
	t.Helper()
	behind := len(d.Trace())
	d.Cut(0)
	if !disk.Try(call) {
		t.Errorf("%s: the power went", what)
	}
	checkTrace(t, what, d, behind)
	d.Crash(nil)
}

// 12.1: the chapter's example, and banks of other numbers of places: of each the second block holds, and none is there.
func TestNewBanks(t *testing.T) {
	for _, blocks := range []int{0, 1, 2, 5, 60} {
		for _, size := range []int{0, 12, least - 1, least, 1000} {
			for at := -2; at < 6; at++ {
				for n := -2; n < 20; n++ {
					d, p := device(blocks, size)
					b := New(p, at, n)
					holding(t, b, strings.Repeat("1", max(n, 0)))
					checkTrace(t, "New, State", d, 0)
					for i := range max(n, 0) {
						behind := len(d.Trace())
						none(t, b, i)
						checkTrace(t, "Read", d, behind, api.EvRead, at+2*i+1)
					}
				}
			}
		}
	}
	_, p := device(8, 40)
	if got := New(p, 0, 3).State(); !bytes.Equal(got, []byte{7}) {
		t.Errorf("%v", got)
	}
}

// 12.1: a new bank reads what stands in the second blocks.
func TestReadOfWhatStands(t *testing.T) {
	_, p := device(20, 40)
	for at := range 20 {
		p.Write(at, []byte{byte(at)})
	}
	for at := range 10 {
		b := New(p, at, 5)
		for i := range 5 {
			reads(t, b, i, string([]byte{byte(at + 2*i + 1)}))
		}
		loads(t, b, "01010")
		for i, which := range []int{0, 1, 0, 1, 0} {
			reads(t, b, i, string([]byte{byte(at + 2*i + which)}))
		}
	}
}

// 12.1: what Write writes, where, and that nothing else is done, nor flushed; which blocks hold stays, and so do the blocks beside it.
func TestWrite(t *testing.T) {
	plains := []string{"a", "", "\x00\x00", "record", strings.Repeat("\xff", 18)}
	for _, size := range []int{40, 41, 64, 1000} {
		for _, at := range []int{0, 1, 5} {
			for _, which := range []string{"11111", "00000", "10110", "01001"} {
				d, p := device(at+11, size)
				b := New(p, at, 5)
				loads(t, b, which)
				want := make([][]byte, d.Blocks())
				for i := range want {
					want[i] = make([]byte, size)
				}
				for seq, i := range []int{3, 0, 4, 1, 2} {
					behind := len(d.Trace())
					place := at + 2*i + int('1'-which[i])
					writes(t, b, i, plains[i])
					checkTrace(t, "Write", d, behind, api.EvWrite, place)
					want[place], _ = seal.Seal(key(), begun, uint64(seq), []byte(plains[i]), size)
					holding(t, b, which)
					for block := range want {
						if got := d.Read(block); !bytes.Equal(got, want[block]) {
							t.Fatalf("%q in place %d: at %d stands %x, want %x", plains[i], i, block, got, want[block])
						}
						if got := d.Stable(block); !bytes.Equal(got, make([]byte, size)) {
							t.Fatalf("%q in place %d: flushed at %d", plains[i], i, block)
						}
					}
				}
				if got := p.Seq(); got != 5 {
					t.Errorf("%d writes", got)
				}
				for i, plain := range plains {
					behind := len(d.Trace())
					reads(t, b, i, plain)
					checkTrace(t, "Read", d, behind, api.EvRead, at+2*i+int('1'-which[i]))
				}
			}
		}
	}
}

// 12.1: a place that is new is written in the same block again, until the commit.
func TestWriteAgain(t *testing.T) {
	d, p := device(8, 40)
	b := New(p, 1, 3)
	for turn := range 4 {
		for i, plain := range []string{"a", "b", "", "c"} {
			behind := len(d.Trace())
			writes(t, b, 2, plain)
			reads(t, b, 2, plain)
			place := 5 + turn%2
			checkTrace(t, "turn "+strconv.Itoa(turn)+" write "+strconv.Itoa(i), d, behind, api.EvWrite, place, api.EvRead, place)
		}
		b.Commit()
		behind := len(d.Trace())
		reads(t, b, 2, "c")
		checkTrace(t, "Read", d, behind, api.EvRead, 5+turn%2)
		none(t, b, 0)
		none(t, b, 1)
	}
}

// 12.1: of new places alone a commit turns which block holds, and none is new behind it; nothing is done on the device.
func TestCommit(t *testing.T) {
	for all := range 1 << 10 {
		d, p := device(20, 40)
		b := New(p, 0, 10)
		loads(t, b, "1100110011")
		var want []byte
		for i, digit := range []byte("1100110011") {
			if all>>i&1 == 1 {
				writes(t, b, i, "x")
				digit ^= 1
			}
			want = append(want, digit)
		}
		holding(t, b, "1100110011")
		needsNoPower(t, d, "Commit", b.Commit)
		holding(t, b, string(want))
		// Behind it none is new: one more turns nothing, and each is read where it holds.
		b.Commit()
		holding(t, b, string(want))
		for i, digit := range want {
			behind := len(d.Trace())
			b.Read(i)
			checkTrace(t, "Read", d, behind, api.EvRead, 2*i+int(digit-'0'))
		}
	}
}

// 12.1: commits take turns, and what is read stays the same over each.
func TestCommitsTakeTurns(t *testing.T) {
	_, p := device(6, 40)
	b := New(p, 0, 3)
	for turn, want := range []string{"101", "111", "101", "111"} {
		plain := strconv.Itoa(turn)
		writes(t, b, 1, plain)
		reads(t, b, 1, plain)
		b.Commit()
		holding(t, b, want)
		reads(t, b, 1, plain)
		if turn > 0 {
			// The one ahead is still in the other block.
			if got, ok := p.Read(3 - turn%2); string(got) != strconv.Itoa(turn-1) || !ok {
				t.Errorf("turn %d: %q, %t", turn, got, ok)
			}
		}
	}
}

// 12.1: each place has its own bit, in banks of each size.
func TestEachBit(t *testing.T) {
	for n := 1; n < 28; n++ {
		for i := range n {
			d, p := device(60, 40)
			b := New(p, 3, n)
			writes(t, b, i, "x")
			b.Commit()
			which := strings.Repeat("1", i) + "0" + strings.Repeat("1", n-i-1)
			holding(t, b, which)
			other := New(p, 3, n)
			none(t, other, i)
			loads(t, other, which)
			reads(t, other, i, "x")
			writes(t, b, i, "y")
			b.Commit()
			holding(t, b, strings.Repeat("1", n))
			alone := strings.Repeat("0", i) + "1" + strings.Repeat("0", n-i-1)
			loads(t, b, alone)
			behind := len(d.Trace())
			for j := range n {
				b.Read(j)
			}
			for j, e := range d.Trace()[behind:] {
				if want := 3 + 2*j + int(alone[j]-'0'); e.At != want {
					t.Errorf("%s: place %d is read at %d, want %d", alone, j, e.At, want)
				}
			}
		}
	}
}

// 12.1: all bytes that are a State are loaded, and no others: each length, and each bit behind the last place's.
func TestLoadOfAllBytes(t *testing.T) {
	_, p := device(4, 40)
	for n := range 19 {
		size := (n + 7) / 8
		for length := range 5 {
			for last := range 256 {
				state := bytes.Repeat([]byte{0xa5}, length)
				if length > 0 {
					state[length-1] = byte(last)
				}
				is := length == size && (n%8 == 0 || last < 1<<(n%8))
				b := New(p, 0, n)
				before := b.State()
				want := before
				if is {
					want = state
				}
				if got := b.Load(state); got != is {
					t.Errorf("%d places: Load of %x: %t", n, state, got)
				}
				if got := b.State(); !bytes.Equal(got, want) {
					t.Errorf("%d places: Load of %x: State %x", n, state, got)
				}
			}
		}
	}
	for _, n := range []int{-3, 0} {
		b := New(p, 0, n)
		if !b.Load(nil) || !b.Load([]byte{}) || b.Load([]byte{0}) {
			t.Errorf("%d places", n)
		}
	}
}

// 12.1: behind a Load none is new; nothing is done on the device.
func TestLoadForgetsWhatIsNew(t *testing.T) {
	d, p := device(6, 40)
	b := New(p, 0, 3)
	writes(t, b, 0, "a")
	writes(t, b, 1, "b")
	b.Commit()
	writes(t, b, 0, "c")
	writes(t, b, 2, "d")
	needsNoPower(t, d, "Load, State", func() { loads(t, b, "001") })
	reads(t, b, 0, "a")
	reads(t, b, 1, "b")
	none(t, b, 2)
	b.Commit()
	holding(t, b, "001")
	// A block that was new is written over.
	behind := len(d.Trace())
	writes(t, b, 0, "e")
	checkTrace(t, "Write", d, behind, api.EvWrite, 1)
	reads(t, b, 0, "e")
	b.Commit()
	holding(t, b, "101")
	// Where the other block is told to hold, it is the one that is read.
	loads(t, b, "001")
	reads(t, b, 0, "a")
}

// 12.1: a Load of what is no State changes nothing: what is new is so still.
func TestLoadOfOthersDoesNothing(t *testing.T) {
	for _, state := range [][]byte{nil, {}, {8}, {128}, {255}, {7, 0}, {0, 0}, make([]byte, 70000)} {
		d, p := device(6, 40)
		b := New(p, 0, 3)
		writes(t, b, 1, "a")
		d.Crash(nil)
		needsNoPower(t, d, "Load", func() {
			if b.Load(state) {
				t.Errorf("%d bytes were loaded", len(state))
			}
		})
		holding(t, b, "111")
		reads(t, b, 1, "a")
		none(t, b, 0)
		b.Commit()
		holding(t, b, "101")
		reads(t, b, 1, "a")
	}
}

// 12.1: of places that are none nothing is read, written or new; no power is needed.
func TestPlacesThatAreNone(t *testing.T) {
	for _, n := range []int{-1, 0, 1, 3, 8} {
		d, p := device(40, 40)
		for block := range 40 {
			p.Write(block, []byte("other"))
		}
		p.Flush()
		seq := p.Seq()
		b := New(p, 10, n)
		for _, i := range []int{math.MinInt, math.MinInt / 2, -1 << 40, -6, -2, -1, max(n, 0), max(n, 0) + 1, 14, 1 << 40, 1<<62 + 1, math.MaxInt/2 + 1, math.MaxInt} {
			needsNoPower(t, d, "place "+strconv.Itoa(i), func() {
				none(t, b, i)
				refuses(t, b, i, "")
				refuses(t, b, i, "x")
				refuses(t, b, i, strings.Repeat("x", 100))
			})
		}
		b.Commit()
		holding(t, b, strings.Repeat("1", max(n, 0)))
		if p.Seq() != seq {
			t.Errorf("%d writes", p.Seq()-seq)
		}
	}
}

// 12.1: a plain for which a block has no room is not written, counted or new; what was new ahead of it is so still.
func TestWriteWithoutRoom(t *testing.T) {
	for _, size := range []int{least, least + 1, 40, 1000} {
		room := size - least
		whole := strings.Repeat("x", room)
		d, p := device(6, size)
		b := New(p, 0, 3)
		writes(t, b, 0, whole)
		b.Commit()
		writes(t, b, 1, whole)
		d.Crash(nil)
		for _, beyond := range []int{1, 2, 12, 22, 70000} {
			needsNoPower(t, d, "Write", func() {
				for i := range 3 {
					refuses(t, b, i, whole+strings.Repeat("y", beyond))
				}
			})
		}
		if p.Seq() != 2 {
			t.Errorf("%d writes", p.Seq())
		}
		reads(t, b, 0, whole)
		reads(t, b, 1, whole)
		none(t, b, 2)
		holding(t, b, "011")
		b.Commit()
		holding(t, b, "001")
		reads(t, b, 1, whole)
	}
	for _, size := range []int{math.MinInt, -1, 0, 1, 12, least - 1} {
		d, p := device(6, size)
		b := New(p, 0, 3)
		needsNoPower(t, d, "Write", func() {
			for i := range 3 {
				refuses(t, b, i, "")
				refuses(t, b, i, "x")
			}
		})
		b.Commit()
		holding(t, b, "111")
	}
}

// 12.1: where a new block is none, the one that holds is not read in its stead.
func TestNewBlocksThatAreGarbled(t *testing.T) {
	for choice, want := range []string{"new", "", ""} {
		d, p := device(6, 40)
		b := New(p, 0, 3)
		writes(t, b, 1, "old")
		b.Commit()
		p.Flush()
		writes(t, b, 1, "new")
		d.Crash([]int{choice})
		behind := len(d.Trace())
		if want == "" {
			none(t, b, 1)
		} else {
			reads(t, b, 1, want)
		}
		checkTrace(t, "Read", d, behind, api.EvRead, 3)
		loads(t, b, "101")
		reads(t, b, 1, "old")
	}
}

// 12.1: blocks that are not sealed, or are sealed with another key, are none; those of another boot are.
func TestBlocksOfOthers(t *testing.T) {
	d, p := device(4, 40)
	b := New(p, 0, 2)
	d.Write(1, []byte("plain"))
	none(t, b, 0)
	other := key()
	other[31] ^= 1
	pen.New(d, other, begun).Write(1, []byte("plain"))
	none(t, b, 0)
	pen.New(d, key(), begun+1).Write(1, []byte("plain"))
	reads(t, b, 0, "plain")
	sealed := d.Read(1)
	for i := range sealed {
		sealed[i] ^= 1
		d.Write(1, sealed)
		none(t, b, 0)
		sealed[i] ^= 1
	}
	d.Write(1, sealed)
	reads(t, b, 0, "plain")
}

// 12.1: places whose blocks the device has not are written and read, and keep nothing; each counts as a write and a read.
func TestBlocksThatAreNone(t *testing.T) {
	for _, at := range []int{math.MinInt, -1000, -6, 5, 1000, 1 << 32, math.MaxInt - 5, math.MaxInt - 2, math.MaxInt - 1, math.MaxInt} {
		d, p := device(5, 40)
		b := New(p, at, 3)
		for i := range 3 {
			behind := len(d.Trace())
			writes(t, b, i, "x")
			none(t, b, i)
			checkTrace(t, "Write, Read", d, behind, api.EvWrite, at+2*i, api.EvRead, at+2*i)
		}
		b.Commit()
		holding(t, b, "000")
		for i := range d.Blocks() {
			if !bytes.Equal(d.Read(i), make([]byte, 40)) {
				t.Errorf("at %d: the block at %d was changed", at, i)
			}
		}
	}
	// Of a place of which the device has one block alone that one is kept.
	_, p := device(5, 40)
	b := New(p, -1, 4)
	writes(t, b, 0, "a")
	none(t, b, 0)
	writes(t, b, 3, "d")
	none(t, b, 3)
	b.Commit()
	writes(t, b, 0, "b")
	reads(t, b, 0, "b")
	holding(t, b, "0110")
}

// 12.1: the greatest bank, and numbers beyond it, which are held there.
func TestGreatestBanks(t *testing.T) {
	for _, n := range []int{most - 1, most, most + 1, 200000, 1 << 40, math.MaxInt} {
		d, p := device(most, 30)
		b, places := New(p, 0, n), min(n, most)
		holding(t, b, strings.Repeat("1", places))
		none(t, b, places)
		refuses(t, b, places, "")
		checkTrace(t, "beyond the last place", d, 0)
		// The device has the first half of these places.
		for _, i := range []int{0, 1, 127, 128, 255, 256, 32767, 32768, 49999} {
			plain := strconv.Itoa(i)
			writes(t, b, i, plain)
			reads(t, b, i, plain)
			if got, ok := p.Read(2 * i); string(got) != plain || !ok {
				t.Errorf("at %d: %q, %t", 2*i, got, ok)
			}
		}
		behind := len(d.Trace())
		writes(t, b, places-1, "last")
		checkTrace(t, "Write", d, behind, api.EvWrite, 2*(places-1))
		b.Commit()
		which := []byte(strings.Repeat("1", places))
		for _, i := range []int{0, 1, 127, 128, 255, 256, 32767, 32768, 49999, places - 1} {
			which[i] = '0'
		}
		holding(t, b, string(which))
		loads(t, New(p, 0, n), string(which))
	}
}

// 12.1: banks of one device, side by side, do not touch one another.
func TestBanksSideBySide(t *testing.T) {
	_, p := device(20, 40)
	banks := []*Bank{New(p, 0, 3), New(p, 6, 4), New(p, 14, 3)}
	for turn := range 5 {
		for one, b := range banks {
			for i := range 3 {
				writes(t, b, i, strconv.Itoa(100*turn+10*one+i))
			}
		}
		banks[turn%3].Commit()
		for one, b := range banks {
			for i := range 3 {
				reads(t, b, i, strconv.Itoa(100*turn+10*one+i))
			}
		}
	}
	holding(t, banks[0], "111")
	holding(t, banks[1], "1111")
	holding(t, banks[2], "000")
}

// 12.1: what is handed in is neither changed nor kept, nor is the room behind it.
func TestNothingIsKept(t *testing.T) {
	_, p := device(20, 60)
	b := New(p, 0, 10)
	whole := []byte("plain and what is behind")
	before := bytes.Clone(whole)
	if !b.Write(1, whole[:5]) || !bytes.Equal(whole, before) {
		t.Errorf("%q", whole)
	}
	clear(whole)
	reads(t, b, 1, "plain")
	b.Commit()
	state := []byte{0x55, 1, 2, 3}
	if !b.Load(state[:2]) || !bytes.Equal(state, []byte{0x55, 1, 2, 3}) {
		t.Errorf("%v", state)
	}
	writes(t, b, 1, "x")
	b.Commit()
	if !bytes.Equal(state, []byte{0x55, 1, 2, 3}) {
		t.Errorf("%v", state)
	}
	clear(state)
	holding(t, b, "1110101010")
}

// 12.1: what is answered is new memory, the spare room, too.
func TestAnswersShareNothing(t *testing.T) {
	_, p := device(40, 60)
	b := New(p, 0, 20)
	writes(t, b, 0, "plain")
	one, _ := b.Read(0)
	one = one[:cap(one)]
	for i := range one {
		one[i] ^= 255
	}
	reads(t, b, 0, "plain")
	b.Commit()
	state := b.State()
	other := b.State()
	state = state[:cap(state)]
	for i := range state {
		state[i] ^= 255
	}
	which := "0" + strings.Repeat("1", 19)
	if !bytes.Equal(other, packed(which)) {
		t.Errorf("%x", other)
	}
	holding(t, b, which)
	writes(t, b, 3, "more")
	b.Commit()
	if !bytes.Equal(other, packed(which)) {
		t.Errorf("%x behind a commit", other)
	}
}

// model is a bank as the chapter's sentence tells it, apart from the program.
type model struct {
	texts [][2]string // what stands in each place's blocks
	is    [][2]bool
	holds []int
	fresh []bool
}

func newModel(n int) *model {
	m := &model{texts: make([][2]string, n), is: make([][2]bool, n), holds: make([]int, n), fresh: make([]bool, n)}
	for i := range m.holds {
		m.holds[i] = 1
	}
	return m
}

func (m *model) read(i int) (string, bool) {
	which := m.holds[i]
	if m.fresh[i] {
		which = 1 - which
	}
	return m.texts[i][which], m.is[i][which]
}

func (m *model) write(i int, plain string) {
	which := 1 - m.holds[i]
	m.texts[i][which], m.is[i][which], m.fresh[i] = plain, true, true
}

func (m *model) commit() {
	for i, turned := range m.fresh {
		if turned {
			m.holds[i] = 1 - m.holds[i]
		}
	}
	clear(m.fresh)
}

func (m *model) which() string {
	var digits []byte
	for _, one := range m.holds {
		digits = append(digits, byte('0'+one))
	}
	return string(digits)
}

func (m *model) load(which string) {
	for i, digit := range []byte(which) {
		m.holds[i] = int(digit - '0')
	}
	clear(m.fresh)
}

// 12.1: in long runs of all calls the bank does as the model.
func TestLongRuns(t *testing.T) {
	r := rand.New(rand.NewSource(121))
	for range 60 {
		n, at := 1+r.Intn(20), r.Intn(4)
		_, p := device(at+2*n, 40)
		b, m := New(p, at, n), newModel(n)
		states := []string{m.which()}
		for step := range 400 {
			i := r.Intn(n)
			switch r.Intn(8) {
			case 0, 1, 2:
				plain := strconv.Itoa(step)
				writes(t, b, i, plain)
				m.write(i, plain)
			case 3:
				refuses(t, b, i, strings.Repeat("x", 19))
			case 4:
				b.Commit()
				m.commit()
				states = append(states, m.which())
			case 5:
				which := states[r.Intn(len(states))]
				loads(t, b, which)
				m.load(which)
			default:
				if want, ok := m.read(i); ok {
					reads(t, b, i, want)
				} else {
					none(t, b, i)
				}
			}
			holding(t, b, m.which())
		}
	}
}

// step is one thing that a bank of two places may be asked ahead of the next commit.
type step func(d *disk.Disk, p *pen.Pen, b *Bank)

func steps() []step {
	return []step{
		func(d *disk.Disk, p *pen.Pen, b *Bank) { b.Write(0, []byte("new")) },
		func(d *disk.Disk, p *pen.Pen, b *Bank) { b.Write(1, []byte("newer")) },
		func(d *disk.Disk, p *pen.Pen, b *Bank) { p.Flush() },
		func(d *disk.Disk, p *pen.Pen, b *Bank) { b.Load(b.State()) },
		func(d *disk.Disk, p *pen.Pen, b *Bank) { d.Crash([]int{2, 1, 0}) },
	}
}

// 12.2: what was committed stays until the next commit, in all rows of five steps, whichever blocks hold: a bank that loads the State has it behind each.
func TestWhatWasCommittedStays(t *testing.T) {
	all := steps()
	for row := range 5 * 5 * 5 * 5 * 5 {
		for which := range 4 {
			d, p := device(4, 40)
			b := New(p, 0, 2)
			for i := range 2 {
				// Of a place that is to hold its second block there are two commits.
				for range 1 + which>>i&1 {
					writes(t, b, i, "old"+strconv.Itoa(i))
					b.Commit()
				}
			}
			p.Flush()
			state := b.State()
			rest := row
			for range 5 {
				all[rest%5](d, p, b)
				rest /= 5
				if !bytes.Equal(b.State(), state) {
					t.Fatalf("row %d: State %v, want %v", row, b.State(), state)
				}
				again := New(p, 0, 2)
				if !again.Load(state) {
					t.Fatalf("%v was not loaded", state)
				}
				reads(t, again, 0, "old0")
				reads(t, again, 1, "old1")
			}
		}
	}
}

// life is how a row of writes with its commit may go: the power goes ahead of its step cut, with choices for the writes that were not flushed; below 0 it does not go.
type life struct {
	cut     int
	choices []int
}

// lives are all of two writes and a flush.
func lives() []life {
	all := []life{{cut: -1}}
	for cut := range 3 {
		rows := 1
		for range cut {
			rows *= 3
		}
		for row := range rows {
			all = append(all, life{cut, []int{row % 3, row / 3}})
		}
	}
	return all
}

// history is a device with a bank that is begun again behind each loss of power, from the State that was kept at the last flush.
type history struct {
	d     *disk.Disk
	n     int
	boots uint32
	p     *pen.Pen
	b     *Bank
	state []byte
	want  []string // what was committed when state was kept
	count int
}

func newHistory(n int) *history {
	h := &history{d: disk.New(2*n, 40), n: n, want: make([]string, n)}
	h.boots++
	h.p = pen.New(h.d, key(), h.boots)
	h.b = New(h.p, 0, n)
	h.state = h.b.State()
	return h
}

// begin is a new beginning: a new boot, and a bank that knows the state alone.
func (h *history) begin(t *testing.T) {
	t.Helper()
	h.boots++
	h.p = pen.New(h.d, key(), h.boots)
	h.b = New(h.p, 0, h.n)
	if !h.b.Load(h.state) {
		t.Fatalf("%x was not loaded", h.state)
	}
	h.check(t)
}

// check tells if the bank has what was committed.
func (h *history) check(t *testing.T) {
	t.Helper()
	for i, want := range h.want {
		if want == "" {
			none(t, h.b, i)
		} else {
			reads(t, h.b, i, want)
		}
	}
}

// turn writes in places, commits and flushes, and keeps the State behind that, all of which may be cut.
func (h *history) turn(t *testing.T, places []int, l life) {
	t.Helper()
	news := slices.Clone(h.want)
	h.d.Cut(l.cut)
	stayed := disk.Try(func() {
		for _, i := range places {
			h.count++
			news[i] = strconv.Itoa(h.count)
			writes(t, h.b, i, news[i])
		}
		h.b.Commit()
		h.p.Flush()
		h.state, h.want = h.b.State(), news
	})
	h.d.Cut(-1)
	if !stayed {
		h.d.Crash(l.choices)
		h.begin(t)
	}
	h.check(t)
}

// 12.2, W2: wherever the power goes, whatever of the writes is kept, lost or garbled, what was committed is there again, in all rows of three turns.
func TestCommittedIsThereAgain(t *testing.T) {
	all := lives()
	pairs := [][]int{{0, 1}, {1, 1}, {1, 0}}
	for row := range len(all) * len(all) * len(all) {
		h, rest := newHistory(2), row
		h.turn(t, []int{0, 1}, life{cut: -1})
		for i := range 3 {
			h.turn(t, pairs[(row+i)%3], all[rest%len(all)])
			rest /= len(all)
		}
		h.begin(t)
		h.turn(t, []int{1, 0}, life{cut: -1})
		h.begin(t)
	}
}

// 12.2, W2: so it is in long rows, in banks of many places.
func TestLongRowsOfTurns(t *testing.T) {
	r := rand.New(rand.NewSource(122))
	for range 30 {
		h := newHistory(1 + r.Intn(20))
		for range 60 {
			places := make([]int, r.Intn(12))
			for i := range places {
				places[i] = r.Intn(h.n)
			}
			l := life{cut: r.Intn(len(places)+2) - 1}
			for range places {
				l.choices = append(l.choices, r.Intn(3))
			}
			h.turn(t, places, l)
			if r.Intn(5) == 0 {
				h.begin(t)
			}
		}
	}
}

// 12.3: the power's panic goes on, from reads and writes; nothing else needs power.
func TestPowerGoes(t *testing.T) {
	for _, c := range []struct {
		needs int
		call  func(b *Bank)
	}{
		{1, func(b *Bank) { b.Read(0) }},
		{1, func(b *Bank) { b.Read(2) }},
		{1, func(b *Bank) { b.Write(0, nil) }},
		{1, func(b *Bank) { b.Write(2, []byte("x")) }},
		{0, func(b *Bank) { b.Read(3) }},
		{0, func(b *Bank) { b.Write(3, nil) }},
		{0, func(b *Bank) { b.Write(0, make([]byte, 19)) }},
		{0, func(b *Bank) { b.Commit() }},
		{0, func(b *Bank) { b.State() }},
		{0, func(b *Bank) { b.Load([]byte{7}) }},
		{0, func(b *Bank) { b.Load(nil) }},
	} {
		for cut := range 3 {
			d, p := device(6, 40)
			b := New(p, 0, 3)
			d.Cut(cut)
			if stayed := disk.Try(func() { c.call(b) }); stayed != (cut >= c.needs) {
				t.Errorf("behind %d of %d: power %t", cut, c.needs, stayed)
			}
			if got := len(d.Trace()); got != min(cut, c.needs) {
				t.Errorf("%d events, want %d", got, min(cut, c.needs))
			}
		}
	}
}

// 12.3: where the power goes in a Write the place is as new as it was ahead of it.
func TestPowerGoesInAWrite(t *testing.T) {
	d, p := device(4, 40)
	b := New(p, 0, 2)
	for i := range 2 {
		writes(t, b, i, "old")
	}
	b.Commit()
	writes(t, b, 0, "new")
	for i := range 2 {
		d.Cut(0)
		if disk.Try(func() { b.Write(i, []byte("newer")) }) {
			t.Fatal("the power stayed")
		}
		d.Crash(nil)
	}
	reads(t, b, 0, "new")
	reads(t, b, 1, "old")
	b.Commit()
	holding(t, b, "10")
	reads(t, b, 0, "new")
	reads(t, b, 1, "old")
}

// 12.3: whatever is given, no call panics where there is power.
func TestNoCallPanics(t *testing.T) {
	ends := []int{math.MinInt, math.MinInt + 1, -200001, -2, -1, 0, 1, 2, 3, 99999, 100000, 100001, 1 << 32, math.MaxInt/2 + 1, math.MaxInt - 1, math.MaxInt}
	plains := [][]byte{nil, {}, {0}, make([]byte, 2), make([]byte, 70000)}
	for _, blocks := range []int{math.MinInt, -1, 0, 1, 3, math.MaxInt} {
		for _, size := range []int{math.MinInt, -1, 0, 1, 11, 12, 21, 22, 23, 1000} {
			_, p := device(blocks, size)
			for _, at := range ends {
				for _, n := range []int{math.MinInt, -1, 0, 1, 3, 8, 9} {
					b := New(p, at, n)
					for k, i := range ends {
						plain := plains[k%len(plains)]
						b.Read(i)
						b.Write(i, plain)
						b.Read(i)
						b.Load(plain)
						b.Commit()
						b.Load(b.State())
					}
				}
			}
		}
	}
	for _, at := range ends {
		_, p := device(3, 40)
		b := New(p, at, math.MaxInt)
		for _, i := range ends {
			b.Read(i)
			b.Write(i, nil)
		}
		b.Commit()
		if !b.Load(b.State()) {
			t.Errorf("at %d: a State was not loaded", at)
		}
	}
	_, p := device(2, math.MaxInt)
	b := New(p, 0, 1)
	writes(t, b, 0, strings.Repeat("x", 59978))
	refuses(t, b, 0, strings.Repeat("x", 59979))
}

// 12.3: any bytes on the device and any states are read without a panic.
func TestAnyBytes(t *testing.T) {
	r := rand.New(rand.NewSource(123))
	for range 3000 {
		size := r.Intn(60)
		noise := make([]byte, size)
		r.Read(noise)
		d, p := device(2, size)
		d.Write(0, noise)
		d.Write(1, noise)
		b := New(p, 0, 1)
		none(t, b, 0)
		b.Load(noise)
		b.Load(noise[:min(size, 1)])
		none(t, New(p, 0, 1), 0)
	}
}
