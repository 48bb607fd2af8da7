package boot

import (
	"bytes"
	"encoding/binary"
	"encoding/hex"
	"hash/fnv"
	"math"
	"math/rand"
	"testing"

	"dumbwaiter/api"
	"dumbwaiter/disk"
)

const greatest = math.MaxUint32

// counts are the edges of each byte of a count, and counts whose bytes all differ; none is 0.
func counts() []uint32 {
	return []uint32{1, 2, 255, 256, 65535, 65536, 0x01020304, 1<<24 - 1, 1 << 24, math.MaxInt32, 1 << 31, 0xf1e2d3c4, greatest - 1, greatest}
}

// wrap is a record of any head and any four bytes, with the right sum of these, apart from the layers below.
func wrap(head, four []byte) []byte {
	sum := fnv.New64a()
	sum.Write(four)
	b := append(bytes.Clone(head), four...)
	return binary.LittleEndian.AppendUint64(b, sum.Sum64())
}

func recordBySentence(n uint32) []byte {
	return wrap(make([]byte, 12), binary.LittleEndian.AppendUint32(nil, n))
}

// tells tells if b is taken for n.
func tells(t *testing.T, b []byte, n uint32) {
	t.Helper()
	if got, ok := Parse(b); got != n || !ok {
		t.Errorf("%x: %d, %t, want %d", b, got, ok, n)
	}
}

// none tells if b is taken for no count, and that nothing stands beside the false.
func none(t *testing.T, b []byte) {
	t.Helper()
	if got, ok := Parse(b); got != 0 || ok {
		t.Errorf("%d bytes, %x: %d, %t", len(b), b[:min(len(b), 40)], got, ok)
	}
}

// device is one on which each of the blocks is flushed at its place.
func device(blocks, size int, written map[int][]byte) *disk.Disk {
	d := disk.New(blocks, size)
	for at, b := range written {
		d.Write(at, b)
	}
	d.Flush()
	return d
}

// bumps tells if the next Bump answers n.
func bumps(t *testing.T, d *disk.Disk, at int, n uint32) {
	t.Helper()
	if got, err := Bump(d, at); got != n || err != api.OK {
		t.Fatalf("Bump at %d: %d, %v, want %d", at, got, err, n)
	}
}

// checkTrace tells if want, kinds and places in turn, is what was done last, and if it is all that was done behind the first events.
func checkTrace(t *testing.T, what string, d *disk.Disk, behind int, want ...int) {
	t.Helper()
	events := d.Trace()[behind:]
	if len(events) != len(want)/2 {
		t.Fatalf("%s: %d events, want %d", what, len(events), len(want)/2)
	}
	for i, e := range events {
		if e.Kind != want[2*i] || e.At != want[2*i+1] {
			t.Errorf("%s: event %d is %d at %d, want %v", what, i, e.Kind, e.At, want)
		}
	}
}

// 8.1: Record, by bytes that were made apart from this program and by the sentence.
func TestRecord(t *testing.T) {
	for n, want := range map[uint32]string{
		0:          "00000000000000000000000000000000f513ce9d7f76254d",
		1:          "000000000000000000000000010000006457984777ca2aad",
		0x01020304: "00000000000000000000000004030201b5ed44365e2245b3",
		greatest:   "000000000000000000000000ffffffff51392a3e65764f99",
	} {
		if got := hex.EncodeToString(Record(n)); got != want {
			t.Errorf("Record(%d) = %s, want %s", n, got, want)
		}
	}
	for _, n := range append(counts(), 0) {
		if got := Record(n); !bytes.Equal(got, recordBySentence(n)) {
			t.Errorf("Record(%d) = %x", n, got)
		}
	}
}

// 8.1: Parse is back from Record, with any number of noughts behind it.
func TestParseIsBack(t *testing.T) {
	for _, n := range counts() {
		for _, more := range []int{0, 1, 2, 12, 24, 1000, 60000} {
			tells(t, append(Record(n), make([]byte, more)...), n)
		}
	}
	r := rand.New(rand.NewSource(81))
	for range 1000 {
		n := r.Uint32()
		tells(t, append(Record(n), make([]byte, r.Intn(9))...), n)
	}
}

// 8.1: a record of 0 tells none, nor does what was never written.
func TestParseOfNoughts(t *testing.T) {
	for _, more := range []int{0, 1, 40} {
		none(t, append(Record(0), make([]byte, more)...))
	}
	none(t, nil)
	for n := range 100 {
		none(t, make([]byte, n))
	}
}

// 8.1: a record that ends too early tells none, be what is left out 0 or not.
func TestParseOfShortBlocks(t *testing.T) {
	for _, n := range counts() {
		for length := range 24 {
			none(t, Record(n)[:length])
			none(t, Record(n)[24-length:])
		}
	}
}

// 8.1: a block of which any bit is another tells none, in the record and behind it; nor does a garbled one.
func TestParseOfChangedBlocks(t *testing.T) {
	for _, n := range []uint32{1, 0x01020304, greatest} {
		for _, more := range []int{0, 1, 30} {
			b := append(Record(n), make([]byte, more)...)
			for i := range b {
				for _, change := range []byte{1, 2, 4, 8, 16, 32, 64, 128, 165, 255} {
					b[i] ^= change
					none(t, b)
					b[i] ^= change
				}
			}
			tells(t, b, n)
			for i := range b {
				b[i] ^= 165
			}
			none(t, b)
		}
	}
}

// 8.1: only the head is wrong, or only what stands behind, whatever the sum says.
func TestParseOfRightSums(t *testing.T) {
	four := []byte{4, 3, 2, 1}
	tells(t, wrap(make([]byte, 12), four), 0x01020304)
	for i := range 12 {
		head := make([]byte, 12)
		head[i] = 1
		none(t, wrap(head, four))
	}
	none(t, append(Record(1), Record(1)...))
	none(t, append(make([]byte, 12), Record(1)...))
	none(t, wrap(make([]byte, 12), []byte{1, 0, 0}))
	none(t, wrap(make([]byte, 12), []byte{1, 0, 0, 0, 0}))
	// The sum of all ahead of it is not that of these 4.
	sum := fnv.New64a()
	sum.Write(Record(1)[:16])
	none(t, binary.LittleEndian.AppendUint64(Record(1)[:16], sum.Sum64()))
}

// 8.1: Last is the greater one of the two, wherever it stands; both are read, whatever they tell.
func TestLast(t *testing.T) {
	bad := Record(9)
	bad[23] ^= 1
	for i, c := range []struct {
		first, second []byte
		want          uint32
	}{
		{nil, nil, 0},
		{Record(1), nil, 1},
		{nil, Record(2), 2},
		{Record(3), Record(2), 3},
		{Record(3), Record(4), 4},
		{Record(8), Record(3), 8},
		{Record(7), Record(7), 7},
		{Record(255), Record(256), 256},
		{Record(65536), Record(65535), 65536},
		{Record(1 << 31), Record(1<<31 - 1), 1 << 31},
		{Record(1), Record(greatest), greatest},
		{Record(greatest), nil, greatest},
		{bad, Record(4), 4},
		{Record(5), bad, 5},
		{bad, bad, 0},
		{Record(0), Record(0), 0},
		{Record(0), Record(6), 6},
		{append(Record(5), 1), append(Record(4), 0, 0), 4},
	} {
		for _, size := range []int{25, 30, 64} {
			for _, at := range []int{0, 1, 3} {
				d := device(at+3, size, map[int][]byte{at: c.first, at + 1: c.second, at + 2: Record(77), at - 1: Record(88)})
				behind := len(d.Trace())
				if got := Last(d, at); got != c.want {
					t.Errorf("%d: Last = %d, want %d", i, got, c.want)
				}
				checkTrace(t, "Last", d, behind, api.EvRead, at, api.EvRead, at+1)
			}
		}
	}
}

// 8.1: Last tells what was written last, flushed or not.
func TestLastOfWhatIsNotFlushed(t *testing.T) {
	d := device(2, 24, map[int][]byte{0: Record(3)})
	d.Write(1, Record(4))
	if got := Last(d, 0); got != 4 {
		t.Error(got)
	}
	d.Crash([]int{1})
	if got := Last(d, 0); got != 3 {
		t.Error(got)
	}
}

// 8.1: places that are none tell none, and are read all the same.
func TestLastOfPlacesThatAreNone(t *testing.T) {
	for _, c := range []struct {
		at   int
		want uint32
	}{{-1, 5}, {0, 6}, {1, 6}, {2, 0}, {-2, 0}, {1000, 0}, {math.MaxInt - 1, 0}, {math.MinInt, 0}} {
		d := device(2, 24, map[int][]byte{0: Record(5), 1: Record(6)})
		behind := len(d.Trace())
		if got := Last(d, c.at); got != c.want {
			t.Errorf("at %d: %d, want %d", c.at, got, c.want)
		}
		checkTrace(t, "Last", d, behind, api.EvRead, c.at, api.EvRead, c.at+1)
	}
}

// 8.1: the chapter's example, and each number behind it: where it is written, that it is flushed, and what stays beside it.
func TestBumpCounts(t *testing.T) {
	for _, size := range []int{24, 25, 60, 3000} {
		for _, at := range []int{0, 1, 4} {
			d := device(at+3, size, map[int][]byte{at + 2: Record(77), at - 1: Record(88)})
			was := [2][]byte{make([]byte, size), make([]byte, size)}
			for n := uint32(1); n <= 20; n++ {
				behind := len(d.Trace())
				bumps(t, d, at, n)
				place := at + int(n+1)%2
				checkTrace(t, "Bump", d, behind, api.EvRead, at, api.EvRead, at+1, api.EvWrite, place, api.EvFlush, 0)
				was[place-at] = append(recordBySentence(n), make([]byte, size-24)...)
				for i, want := range was {
					if got := d.Stable(at + i); !bytes.Equal(got, want) {
						t.Errorf("%d at %d: %x, want %x", n, at+i, got, want)
					}
				}
				if got := Last(d, at); got != n {
					t.Errorf("Last = %d behind %d", got, n)
				}
			}
			if got, _ := Parse(d.Stable(at + 2)); got != 77 {
				t.Error("the block behind was changed")
			}
			if got, _ := Parse(d.Stable(at - 1)); at > 0 && got != 88 {
				t.Error("the block ahead was changed")
			}
		}
	}
}

// 8.1: Bump goes on from the greater one, even where that stands in the other place; the place hangs on the number alone.
func TestBumpGoesOnFromTheGreaterOne(t *testing.T) {
	for _, last := range counts() {
		if last == greatest {
			continue
		}
		for where := range 2 {
			d := device(2, 24, map[int][]byte{where: Record(last), 1 - where: Record(last / 2)})
			behind := len(d.Trace())
			bumps(t, d, 0, last+1)
			checkTrace(t, "Bump", d, behind, api.EvRead, 0, api.EvRead, 1, api.EvWrite, int(last%2), api.EvFlush, 0)
			if got := d.Stable(int(last % 2)); !bytes.Equal(got, recordBySentence(last+1)) {
				t.Errorf("behind %d: %x", last, got)
			}
		}
	}
}

// 8.1: the head of what Bump writes shows nothing, whatever the number.
func TestBumpShowsNoNumber(t *testing.T) {
	d := disk.New(2, 24)
	for n := uint32(1); n < 300; n++ {
		bumps(t, d, 0, n)
	}
	for _, e := range d.Trace() {
		if e.Head != [12]byte{} {
			t.Fatalf("%d at %d shows %x", e.Kind, e.At, e.Head)
		}
	}
}

// 8.1: behind the greatest number there is none: nothing is written, and nothing flushed.
func TestBumpIsExhausted(t *testing.T) {
	for where := range 2 {
		for _, other := range [][]byte{nil, Record(7), Record(greatest - 1), Record(greatest)} {
			d := device(3, 30, map[int][]byte{where: Record(greatest), 1 - where: other})
			d.Write(2, []byte{1})
			behind := len(d.Trace())
			for range 3 {
				if n, err := Bump(d, 0); n != 0 || err != api.ErrExhausted {
					t.Errorf("Bump = %d, %v", n, err)
				}
				if got := Last(d, 0); got != greatest {
					t.Errorf("Last = %d", got)
				}
			}
			reads := []int{api.EvRead, 0, api.EvRead, 1, api.EvRead, 0, api.EvRead, 1}
			checkTrace(t, "exhausted", d, behind, append(append(append([]int{}, reads...), reads...), reads...)...)
			if got := d.Stable(2); got[0] != 0 {
				t.Error("flushed")
			}
		}
	}
}

// 8.1: the greatest number itself is had, and is the last one.
func TestBumpToTheGreatest(t *testing.T) {
	d := device(2, 24, map[int][]byte{0: Record(greatest - 2)})
	bumps(t, d, 0, greatest-1)
	bumps(t, d, 0, greatest)
	if n, err := Bump(d, 0); n != 0 || err != api.ErrExhausted {
		t.Errorf("Bump = %d, %v", n, err)
	}
	for at, want := range []uint32{greatest, greatest - 1} {
		if got, ok := Parse(d.Stable(at)); got != want || !ok {
			t.Errorf("at %d: %d, want %d", at, got, want)
		}
	}
}

// 8.1: where no record can stand the sentence's number is 1.
func TestBumpWhereNoRecordStands(t *testing.T) {
	for _, c := range []struct{ blocks, size, at int }{{2, 23, 0}, {2, 16, 0}, {2, 0, 0}, {0, 24, 0}, {2, 24, 2}, {2, 24, -2}, {2, 24, -1000}} {
		d := disk.New(c.blocks, c.size)
		behind := 0
		for range 3 {
			bumps(t, d, c.at, 1)
			checkTrace(t, "Bump", d, behind, api.EvRead, c.at, api.EvRead, c.at+1, api.EvWrite, c.at, api.EvFlush, 0)
			behind = len(d.Trace())
		}
		if got := Last(d, c.at); got != 0 {
			t.Errorf("%v: Last = %d", c, got)
		}
	}
}

// lives are the ways in which one beginning may go: the power goes ahead of its step cut (there are four), with a choice for a write that was not flushed; or it does not go.
type life struct{ cut, choice int }

func lives() []life {
	all := []life{{-1, 0}}
	for cut := range 4 {
		for choice := range 3 {
			all = append(all, life{cut, choice})
		}
	}
	return all
}

// history is what was had of a device, and what stands there.
type history struct {
	d         *disk.Disk
	at        int
	had, last uint32
}

// begin is one Bump that may be cut; other choices are those of writes ahead of it. A number that is had is greater than all ahead of it, and stands from then on; one that is not had stands or does not.
func (h *history) begin(t *testing.T, l life, choices ...int) {
	t.Helper()
	n := uint32(0)
	h.d.Cut(l.cut)
	stayed := disk.Try(func() { n, _ = Bump(h.d, h.at) })
	h.d.Crash(append(choices, l.choice))
	last := Last(h.d, h.at)
	switch {
	case stayed != (l.cut < 0) || stayed != (n != 0):
		t.Fatalf("%v: %d, power: %t", l, n, stayed)
	case stayed && (n <= h.had || n != h.last+1 || last != n):
		t.Fatalf("%v: %d was had behind %d, Last = %d", l, n, h.had, last)
	case last != h.last && last != h.last+1:
		t.Fatalf("%v: Last = %d behind %d", l, last, h.last)
	}
	h.had, h.last = max(h.had, n), last
}

// 8.2: no number is had twice, in all rows of four beginnings, of which each may lose its power at each step, its write kept, lost or garbled.
func TestNoNumberIsHadTwice(t *testing.T) {
	all := lives()
	rows := len(all) * len(all) * len(all) * len(all)
	for row := range rows {
		h, rest := &history{d: disk.New(2, 24)}, row
		for range 4 {
			h.begin(t, all[rest%len(all)])
			rest /= len(all)
		}
		h.begin(t, life{-1, 0})
	}
}

// 8.2: so it is in long rows, with other writes that are not flushed ahead of the record.
func TestNoNumberIsHadTwiceInLongRows(t *testing.T) {
	r := rand.New(rand.NewSource(82))
	all := lives()
	for range 50 {
		h := &history{d: disk.New(6, 24+r.Intn(40)), at: 2}
		for range 200 {
			choices := make([]int, 4)
			for i := range choices {
				h.d.Write(4+i%2, Record(r.Uint32()))
				choices[i] = r.Intn(3)
			}
			h.begin(t, all[r.Intn(len(all))], choices...)
		}
	}
}

// 8.2: where a write is lost or garbled, the number ahead still stands.
func TestTheNumberAheadStands(t *testing.T) {
	for had := uint32(1); had < 10; had++ {
		for choice, want := range []uint32{had + 1, had, had} {
			d := disk.New(2, 24)
			for n := range had {
				bumps(t, d, 0, n+1)
			}
			h := &history{d: d, had: had, last: had}
			h.begin(t, life{3, choice})
			if got := Last(d, 0); got != want {
				t.Errorf("choice %d behind %d: Last = %d, want %d", choice, had, got, want)
			}
			bumps(t, d, 0, want+1)
		}
	}
}

// 8.3: the power's panic goes on, from each step; nothing else panics.
func TestPowerGoes(t *testing.T) {
	for cut := range 4 {
		d := disk.New(2, 24)
		d.Cut(cut)
		if disk.Try(func() { Bump(d, 0) }) {
			t.Errorf("Bump had power behind %d", cut)
		}
		if got := len(d.Trace()); got != cut {
			t.Errorf("%d events, want %d", got, cut)
		}
	}
	for cut := range 2 {
		d := disk.New(2, 24)
		d.Cut(cut)
		if disk.Try(func() { Last(d, 0) }) {
			t.Errorf("Last had power behind %d", cut)
		}
	}
	d := disk.New(2, 24)
	d.Cut(4)
	if !disk.Try(func() { Bump(d, 0) }) {
		t.Error("Bump needs more than four steps")
	}
}

// 8.3: whatever is given, no call panics where there is power.
func TestNoCallPanics(t *testing.T) {
	ends := []int{math.MinInt, math.MinInt + 1, -100001, -2, -1, 0, 1, 2, 3, 99999, 100000, 100001, 1 << 32, math.MaxInt - 1, math.MaxInt}
	for _, blocks := range []int{-1, 0, 1, 2, 3, 100000} {
		for _, size := range []int{-1, 0, 1, 11, 12, 15, 16, 17, 23, 24, 25, 60000} {
			d := disk.New(blocks, size)
			for _, at := range ends {
				Last(d, at)
				Bump(d, at)
			}
		}
	}
	r := rand.New(rand.NewSource(83))
	for range 5000 {
		b := make([]byte, r.Intn(60))
		r.Read(b)
		none(t, b)
	}
	Parse(make([]byte, 1<<20))
}

// The document's rule 3: what is handed in stays as it is, and answers share nothing.
func TestNothingHandedInIsChangedOrShared(t *testing.T) {
	whole := append(Record(5), make([]byte, 40)...)
	whole[40] = 9
	was := bytes.Clone(whole)
	tells(t, whole[:40], 5)
	none(t, whole)
	if !bytes.Equal(whole, was) {
		t.Error("the block was changed")
	}
	one, other := Record(6), Record(6)
	one = one[:cap(one)]
	for i := range one {
		one[i] ^= 255
	}
	if !bytes.Equal(other, recordBySentence(6)) || !bytes.Equal(Record(6), recordBySentence(6)) {
		t.Error("two records share memory")
	}
}
