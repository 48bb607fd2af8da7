package pen

import (
	"bytes"
	"encoding/hex"
	"math"
	"math/rand"
	"testing"

	"dumbwaiter/api"
	"dumbwaiter/disk"
	"dumbwaiter/seal"
)

const (
	beside   = 22    // what a block holds beside its room
	greatest = 60000 // the size of the greatest blocks of a device
	lastBoot = math.MaxUint32
)

// risingKey is a key of which no byte is as another.
func risingKey() [32]byte {
	var key [32]byte
	for i := range key {
		key[i] = byte(i + 1)
	}
	return key
}

// rising answers n bytes, none of the first 255 of them 0.
func rising(n int) []byte {
	b := make([]byte, n)
	for i := range b {
		b[i] = byte(i%255 + 1)
	}
	return b
}

// sizes are those at the ends of the stream's blocks, with the least and the greatest that a device has room in.
func sizes() []int {
	return []int{22, 23, 24, 64, 75, 76, 77, 139, 140, 141, 1000, greatest - 1, greatest}
}

func boots() []uint32 {
	return []uint32{0, 1, 255, 256, 0x01020304, 1 << 31, lastBoot}
}

// writes tells if plain is taken, as the write of the number seq.
func writes(t *testing.T, p *Pen, at int, plain []byte, seq uint64) {
	t.Helper()
	if got := p.Seq(); got != seq {
		t.Fatalf("ahead of a write: Seq = %d, want %d", got, seq)
	}
	if !p.Write(at, plain) {
		t.Fatalf("%d bytes at %d were not written", len(plain), at)
	}
	if got := p.Seq(); got != seq+1 {
		t.Fatalf("behind a write: Seq = %d, want %d", got, seq+1)
	}
}

// refuses tells if plain is not taken, and that nothing is done on the device nor counted.
func refuses(t *testing.T, p *Pen, d *disk.Disk, at int, plain []byte) {
	t.Helper()
	seq, behind := p.Seq(), len(d.Trace())
	if p.Write(at, plain) {
		t.Errorf("%d bytes at %d were written", len(plain), at)
	}
	if got := p.Seq(); got != seq {
		t.Errorf("Seq = %d, want %d", got, seq)
	}
	checkTrace(t, "Write", d, behind)
}

// reads tells if plain stands at at.
func reads(t *testing.T, p *Pen, at int, plain []byte) {
	t.Helper()
	if got, ok := p.Read(at); !bytes.Equal(got, plain) || !ok {
		t.Errorf("at %d: %x, %t, want %x", at, got, ok, plain)
	}
}

// none tells if no sealed block stands at at, and that nothing stands beside the false.
func none(t *testing.T, p *Pen, at int) {
	t.Helper()
	if got, ok := p.Read(at); len(got) != 0 || ok {
		t.Errorf("at %d: %x, %t", at, got, ok)
	}
}

func sealed(t *testing.T, key [32]byte, boot uint32, seq uint64, plain []byte, size int) []byte {
	t.Helper()
	b, ok := seal.Seal(key, boot, seq, plain, size)
	if !ok {
		t.Fatalf("%d bytes are not sealed in %d", len(plain), size)
	}
	return b
}

// checkTrace tells if want, kinds and places in turn, is all that was done behind the first events.
func checkTrace(t *testing.T, what string, d *disk.Disk, behind int, want ...int) {
	t.Helper()
	events := d.Trace()[behind:]
	if len(events) != len(want)/2 {
		t.Fatalf("%s: %d events, want %d", what, len(events), len(want)/2)
	}
	for i, e := range events {
		if e.Kind != want[2*i] || e.At != want[2*i+1] {
			t.Errorf("%s: event %d is %d at %d, want %v", what, i, e.Kind, e.At, want)
		}
	}
}

// checkNonces tells if no two writes of the device begin alike, and answers how many there are.
func checkNonces(t *testing.T, d *disk.Disk) int {
	t.Helper()
	seen := map[[12]byte]int{}
	for i, e := range d.Trace() {
		if e.Kind != api.EvWrite {
			continue
		}
		if first, ok := seen[e.Head]; ok {
			t.Fatalf("events %d and %d are both written with %x", first, i, e.Head)
		}
		seen[e.Head] = i
	}
	return len(seen)
}

// 9.1: what is written, by blocks that were made apart from this program.
func TestWrittenBlocks(t *testing.T) {
	d := disk.New(3, 30)
	p := New(d, risingKey(), 0x01020304)
	for i, c := range []struct{ plain, want string }{
		{"", "040302010000000000000000affaf6389bae92095c556cc2ba0ac53b8256"},
		{"a", "040302010100000000000000ebaab990deb33f3ad0285561dac52b9241bb"},
		{"eight by", "0403020102000000000000003decd619c37724c3f9610384fd3af932fc62"},
	} {
		writes(t, p, i, []byte(c.plain), uint64(i))
		if got := hex.EncodeToString(d.Read(i)); got != c.want {
			t.Errorf("%q: %s, want %s", c.plain, got, c.want)
		}
		reads(t, p, i, []byte(c.plain))
	}
}

// 9.1: each write is the Seal of its plain, its number and the device's size, and nothing else is done; any plain that has room is taken.
func TestWriteSeals(t *testing.T) {
	for _, size := range sizes() {
		for _, boot := range boots() {
			d := disk.New(3, size)
			p := New(d, risingKey(), boot)
			room := size - beside
			for i, length := range []int{0, min(1, room), room / 2, max(room-1, 0), room} {
				behind, at, plain := len(d.Trace()), i%3, rising(length)
				writes(t, p, at, plain, uint64(i))
				checkTrace(t, "Write", d, behind, api.EvWrite, at)
				want := sealed(t, risingKey(), boot, uint64(i), plain, size)
				if got := d.Trace()[behind].Body; !bytes.Equal(got, want) {
					t.Fatalf("%d bytes in %d are not their Seal", length, size)
				}
				reads(t, p, at, plain)
			}
		}
	}
}

// 9.1: plain that has no room, by one byte or by many, is neither written nor counted; the next write has its number.
func TestWriteOfTooLongPlain(t *testing.T) {
	for _, size := range sizes() {
		d := disk.New(2, size)
		p := New(d, risingKey(), 5)
		for seq := range uint64(3) {
			for _, more := range []int{1, 2, 22, 70000} {
				for _, at := range []int{0, 1, 2, -1} {
					refuses(t, p, d, at, rising(size-beside+more))
				}
			}
			writes(t, p, 0, rising(size-beside), seq)
			if got := d.Read(0); !bytes.Equal(got, sealed(t, risingKey(), 5, seq, rising(size-beside), size)) {
				t.Errorf("size %d: write %d has another number", size, seq)
			}
		}
	}
}

// 9.1: a device whose blocks are too small for a head, a length and a sum takes nothing.
func TestSmallDevices(t *testing.T) {
	for _, size := range []int{math.MinInt, -1, 0, 1, 12, 20, 21} {
		d := disk.New(2, size)
		p := New(d, risingKey(), 1)
		refuses(t, p, d, 0, nil)
		refuses(t, p, d, 1, []byte{})
		refuses(t, p, d, 0, []byte{1})
		none(t, p, 0)
	}
}

// 9.1: a write at a place that is none is a write, and is counted.
func TestWriteAtPlacesThatAreNone(t *testing.T) {
	d := disk.New(2, 30)
	p := New(d, risingKey(), 9)
	for i, at := range []int{2, -1, math.MaxInt, math.MinInt, 100000} {
		behind := len(d.Trace())
		writes(t, p, at, []byte("abc"), uint64(i))
		checkTrace(t, "Write", d, behind, api.EvWrite, at)
		if got := d.Trace()[behind].Body; !bytes.Equal(got, sealed(t, risingKey(), 9, uint64(i), []byte("abc"), 30)) {
			t.Errorf("at %d: %x", at, got)
		}
		behind = len(d.Trace())
		none(t, p, at)
		checkTrace(t, "Read", d, behind, api.EvRead, at)
	}
	none(t, p, 0)
	none(t, p, 1)
	empty := New(disk.New(0, 30), risingKey(), 9)
	writes(t, empty, 0, nil, 0)
	none(t, empty, 0)
}

// 9.1: Read is what stands there last, is one read, and counts no number.
func TestRead(t *testing.T) {
	d := disk.New(3, 40)
	p := New(d, risingKey(), 3)
	none(t, p, 0)
	writes(t, p, 0, []byte("first"), 0)
	writes(t, p, 1, []byte("beside"), 1)
	writes(t, p, 0, []byte("second"), 2)
	behind := len(d.Trace())
	reads(t, p, 0, []byte("second"))
	reads(t, p, 1, []byte("beside"))
	reads(t, p, 1, []byte("beside"))
	none(t, p, 2)
	checkTrace(t, "Read", d, behind, api.EvRead, 0, api.EvRead, 1, api.EvRead, 1, api.EvRead, 2)
	if got := p.Seq(); got != 3 {
		t.Errorf("Seq = %d", got)
	}
}

// 9.1: a block of another boot or number opens, one of another key does not; what is no Seal does not.
func TestReadOfOtherBlocks(t *testing.T) {
	d := disk.New(2, 40)
	p := New(d, risingKey(), 3)
	for _, boot := range boots() {
		for _, seq := range []uint64{0, 1, 1 << 32, math.MaxUint64} {
			d.Write(0, sealed(t, risingKey(), boot, seq, []byte("text"), 40))
			reads(t, p, 0, []byte("text"))
		}
	}
	for i := range 32 {
		key := risingKey()
		key[i] ^= 1
		none(t, New(d, key, 3), 0)
		d.Write(1, sealed(t, key, 3, 0, []byte("text"), 40))
		none(t, p, 1)
	}
	d.Write(1, rising(40))
	none(t, p, 1)
	// A block that is sealed in fewer bytes has noughts behind it here.
	d.Write(1, sealed(t, risingKey(), 3, 0, []byte("text"), 39))
	none(t, p, 1)
}

// 9.1: a block of which any bit is another does not open.
func TestReadOfChangedBlocks(t *testing.T) {
	d := disk.New(1, 30)
	p := New(d, risingKey(), 3)
	writes(t, p, 0, []byte("abc"), 0)
	b := d.Read(0)
	for i := range b {
		for bit := range 8 {
			b[i] ^= 1 << bit
			d.Write(0, b)
			none(t, p, 0)
			b[i] ^= 1 << bit
		}
	}
	d.Write(0, b)
	reads(t, p, 0, []byte("abc"))
}

// 9.1: Flush is one flush, of all that was written on the device; Write flushes nothing.
func TestFlush(t *testing.T) {
	d := disk.New(3, 30)
	p, q := New(d, risingKey(), 1), New(d, risingKey(), 2)
	writes(t, p, 0, []byte("p"), 0)
	writes(t, q, 1, []byte("q"), 0)
	for at := range 3 {
		if !bytes.Equal(d.Stable(at), make([]byte, 30)) {
			t.Errorf("what stands at %d is flushed", at)
		}
	}
	behind := len(d.Trace())
	p.Flush()
	checkTrace(t, "Flush", d, behind, api.EvFlush, 0)
	for at, want := range [][]byte{sealed(t, risingKey(), 1, 0, []byte("p"), 30), sealed(t, risingKey(), 2, 0, []byte("q"), 30), make([]byte, 30)} {
		if got := d.Stable(at); !bytes.Equal(got, want) {
			t.Errorf("what stands at %d is not flushed: %x", at, got)
		}
	}
	p.Flush()
	checkTrace(t, "Flush", d, behind, api.EvFlush, 0, api.EvFlush, 0)
	if p.Seq() != 1 || q.Seq() != 1 {
		t.Errorf("Seq = %d and %d", p.Seq(), q.Seq())
	}
}

// 9.1: a write that was not flushed is kept, lost or garbled; beside it stands what was flushed.
func TestReadBehindCrash(t *testing.T) {
	for choice := range 3 {
		for _, flushed := range []bool{false, true} {
			d := disk.New(2, 30)
			p := New(d, risingKey(), 1)
			writes(t, p, 0, []byte("old"), 0)
			writes(t, p, 1, []byte("beside"), 1)
			p.Flush()
			writes(t, p, 0, []byte("new"), 2)
			if flushed {
				p.Flush()
			}
			d.Crash([]int{choice})
			switch {
			case flushed || choice == 0:
				reads(t, p, 0, []byte("new"))
			case choice == 1:
				reads(t, p, 0, []byte("old"))
			default:
				none(t, p, 0)
			}
			reads(t, p, 1, []byte("beside"))
		}
	}
}

// 9.1: Seq is 0 of a new pen, whatever stands on the device, and does nothing there.
func TestSeq(t *testing.T) {
	d := disk.New(2, 30)
	for _, boot := range boots() {
		p := New(d, risingKey(), boot)
		behind := len(d.Trace())
		for range 3 {
			if got := p.Seq(); got != 0 {
				t.Errorf("Seq = %d", got)
			}
		}
		checkTrace(t, "New and Seq", d, behind)
		for seq := range uint64(300) {
			writes(t, p, int(seq%2), nil, seq)
		}
	}
}

// 9.1: two pens count apart, on one device or on two.
func TestPensCountApart(t *testing.T) {
	d := disk.New(2, 30)
	p, q := New(d, risingKey(), 1), New(disk.New(2, 40), risingKey(), 1)
	writes(t, p, 0, []byte("p"), 0)
	writes(t, p, 1, []byte("p"), 1)
	writes(t, q, 0, []byte("q"), 0)
	writes(t, New(d, risingKey(), 2), 0, []byte("r"), 0)
	writes(t, p, 1, []byte("s"), 2)
	reads(t, p, 0, []byte("r"))
	reads(t, p, 1, []byte("s"))
	reads(t, q, 0, []byte("q"))
}

// 9.2: the nonces are the boot and 0, 1, 2 and so on, the same plain at the same place or not.
func TestNoncesInOrder(t *testing.T) {
	for _, boot := range boots() {
		d := disk.New(3, 30)
		p := New(d, risingKey(), boot)
		for i := range 600 {
			writes(t, p, i%4, []byte("same"), uint64(i))
		}
		for i, e := range d.Trace() {
			if e.Head != seal.Head(boot, uint64(i)) {
				t.Fatalf("write %d has %x", i, e.Head)
			}
		}
		checkNonces(t, d)
	}
}

// 9.2: of many pens of many boots no two writes have one nonce, whatever is done between them.
func TestNoncesInLongRuns(t *testing.T) {
	r := rand.New(rand.NewSource(92))
	for range 20 {
		d := disk.New(4, 40)
		pens, written := []*Pen{}, 0
		for range 2000 {
			if len(pens) == 0 || r.Intn(100) == 0 {
				pens = append(pens, New(d, risingKey(), uint32(len(pens)+1)))
			}
			p := pens[r.Intn(len(pens))]
			switch r.Intn(6) {
			case 0:
				p.Flush()
			case 1:
				p.Read(r.Intn(5))
			case 2:
				refuses(t, p, d, r.Intn(5), rising(19+r.Intn(40)))
			case 3:
				d.Crash([]int{r.Intn(3), r.Intn(3), r.Intn(3)})
			default:
				writes(t, p, r.Intn(5), rising(r.Intn(19)), p.Seq())
				written++
			}
		}
		if got := checkNonces(t, d); got != written {
			t.Errorf("%d nonces of %d writes", got, written)
		}
	}
}

// 9.2: a write that has no power shows no nonce, and what the pen writes behind the crash has another one than all ahead of it.
func TestNoncesWherePowerGoes(t *testing.T) {
	for cut := range 8 {
		for choice := range 3 {
			d := disk.New(2, 30)
			p := New(d, risingKey(), 1)
			d.Cut(cut)
			stayed := disk.Try(func() {
				for i := range 4 {
					p.Write(i%2, []byte("ahead"))
					p.Flush()
				}
			})
			if stayed {
				t.Fatalf("the power stayed behind %d", cut)
			}
			if got := checkNonces(t, d); uint64(got) > p.Seq() {
				t.Errorf("%d writes, but Seq is %d", got, p.Seq())
			}
			d.Crash([]int{choice, choice})
			ahead := checkNonces(t, d)
			writes(t, p, 0, []byte("behind"), p.Seq())
			writes(t, New(d, risingKey(), 2), 1, []byte("behind"), 0)
			if got := checkNonces(t, d); got != ahead+2 {
				t.Errorf("%d nonces, want %d", got, ahead+2)
			}
			reads(t, p, 0, []byte("behind"))
		}
	}
}

// 9.1: what is not written is not counted, also where the power is what is missing.
func TestWriteWithoutPower(t *testing.T) {
	d := disk.New(2, 30)
	p := New(d, risingKey(), 1)
	writes(t, p, 0, []byte("ahead"), 0)
	d.Cut(0)
	for range 3 {
		if disk.Try(func() { p.Write(0, []byte("lost")) }) {
			t.Fatal("the power stayed")
		}
	}
	// What Seal says no to needs no power.
	if !disk.Try(func() { refuses(t, p, d, 0, rising(9)) }) {
		t.Error("the power went where nothing is written")
	}
	d.Crash(nil)
	reads(t, p, 0, []byte("ahead"))
	writes(t, p, 0, []byte("behind"), 1)
}

// 9.3: the power's panic goes on, from each of the three that are counted; Seq needs no power.
func TestPowerGoes(t *testing.T) {
	for i, call := range []func(p *Pen){
		func(p *Pen) { p.Write(0, []byte("abc")) },
		func(p *Pen) { p.Write(7, nil) },
		func(p *Pen) { p.Read(0) },
		func(p *Pen) { p.Read(-1) },
		func(p *Pen) { p.Flush() },
	} {
		d := disk.New(1, 30)
		p := New(d, risingKey(), 1)
		d.Cut(1)
		if !disk.Try(func() { call(p) }) {
			t.Errorf("call %d needs more than one step", i)
		}
		if disk.Try(func() { call(p) }) {
			t.Errorf("call %d had no need of power", i)
		}
		if !disk.Try(func() { p.Seq(); New(d, risingKey(), 2) }) {
			t.Error("Seq or New needs power")
		}
		if got := len(d.Trace()); got != 1 {
			t.Errorf("call %d: %d events", i, got)
		}
	}
}

// 9.3: whatever is given, no call panics where there is power.
func TestNoCallPanics(t *testing.T) {
	ends := []int{math.MinInt, -100001, -1, 0, 1, 2, 99999, 100000, 1 << 32, math.MaxInt}
	for _, blocks := range []int{math.MinInt, -1, 0, 1, 2, 100000, math.MaxInt} {
		for _, size := range []int{math.MinInt, -1, 0, 1, 11, 12, 21, 22, 23, 100} {
			for _, boot := range []uint32{0, 1, lastBoot} {
				p := New(disk.New(blocks, size), [32]byte{}, boot)
				for _, at := range ends {
					p.Read(at)
					p.Write(at, nil)
					p.Write(at, rising(50))
					p.Write(at, rising(101))
					p.Read(at)
				}
				p.Flush()
				p.Seq()
			}
		}
	}
	p := New(disk.New(1, math.MaxInt), [32]byte{}, 0)
	p.Write(0, rising(1<<20))
	p.Write(0, rising(greatest-beside))
	p.Read(0)
	p.Flush()
}

// 9.3: any bytes on the device are read without a panic.
func TestReadOfAnyBytes(t *testing.T) {
	r := rand.New(rand.NewSource(93))
	for size := range 60 {
		d := disk.New(1, size)
		p := New(d, risingKey(), 1)
		for range 100 {
			b := make([]byte, size)
			r.Read(b)
			d.Write(0, b)
			none(t, p, 0)
		}
	}
}

// The document's rule 3: what is handed in is neither changed nor kept.
func TestNothingHandedInIsChangedOrKept(t *testing.T) {
	d := disk.New(1, 40)
	key := risingKey()
	p := New(d, key, 1)
	key[0] ^= 255
	whole := rising(60)
	was := bytes.Clone(whole)
	writes(t, p, 0, whole[:10], 0)
	refuses(t, p, d, 0, whole[:50])
	if !bytes.Equal(whole, was) {
		t.Error("the plain was changed")
	}
	for i := range whole {
		whole[i] = 0
	}
	if got := d.Read(0); !bytes.Equal(got, sealed(t, risingKey(), 1, 0, was[:10], 40)) {
		t.Errorf("the plain was kept: %x", got)
	}
	reads(t, p, 0, was[:10])
}

// The document's rule 3: answers are new memory, their spare room too.
func TestAnswersShareNothing(t *testing.T) {
	d := disk.New(1, 40)
	p := New(d, risingKey(), 1)
	writes(t, p, 0, []byte("abc"), 0)
	one, _ := p.Read(0)
	other, _ := p.Read(0)
	one = one[:cap(one)]
	for i := range one {
		one[i] ^= 255
	}
	if string(other) != "abc" {
		t.Error("two answers share memory")
	}
	reads(t, p, 0, []byte("abc"))
}
