package ring

import (
	"bytes"
	"encoding/binary"
	"math"
	"math/rand"
	"slices"
	"strconv"
	"strings"
	"testing"

	"dumbwaiter/api"
	"dumbwaiter/disk"
	"dumbwaiter/pen"
	"dumbwaiter/seal"
)

const (
	least    = 34 // the size of the least blocks that have room for a rec, the empty one alone
	begun    = 7  // the boot of the pens
	greatest = math.MaxUint64
	most     = 100000 // the places of the greatest log
)

// key is one of which no byte is as another.
func key() [32]byte {
	var key [32]byte
	for i := range key {
		key[i] = byte(i + 1)
	}
	return key
}

// text is what stands at a place for rec, apart from the layers below.
func text(epoch uint64, place int, rec string) []byte {
	b := binary.LittleEndian.AppendUint64(nil, epoch)
	b = binary.LittleEndian.AppendUint32(b, uint32(place))
	return append(b, rec...)
}

// epochs are the edges of each byte of an epoch, and epochs whose bytes all differ.
func epochs() []uint64 {
	list := []uint64{0, 1, 2, 0x0102030405060708, 0xf7e6d5c4b3a29180, greatest - 1, greatest}
	for bits := 8; bits < 64; bits += 8 {
		list = append(list, 1<<bits-1, 1<<bits, 1<<bits+1)
	}
	return append(list, 1<<63-1, 1<<63, 1<<63+1)
}

// device is a new device, with a pen for it.
func device(blocks, size int) (*disk.Disk, *pen.Pen) {
	d := disk.New(blocks, size)
	return d, pen.New(d, key(), begun)
}

// started is a log that is empty, of epoch.
func started(p *pen.Pen, at, size int, epoch uint64) *Ring {
	r := New(p, at, size)
	r.Start(epoch)
	return r
}

// lay writes plain at at, sealed, and flushes it.
func lay(t *testing.T, p *pen.Pen, at int, plain []byte) {
	t.Helper()
	if !p.Write(at, plain) {
		t.Fatalf("%d bytes at %d were not written", len(plain), at)
	}
	p.Flush()
}

// adds tells if all recs are logged, and counted one by one.
func adds(t *testing.T, r *Ring, recs ...string) {
	t.Helper()
	for _, rec := range recs {
		before := r.Len()
		if !r.Add([]byte(rec)) {
			t.Fatalf("%q behind %d was not logged", rec, before)
		}
		if got := r.Len(); got != before+1 {
			t.Fatalf("%d recs behind one more than %d", got, before)
		}
	}
}

// refuses tells if rec is not logged and the log stays as it is.
func refuses(t *testing.T, r *Ring, rec []byte) {
	t.Helper()
	before := r.Len()
	if r.Add(rec) {
		t.Errorf("%d bytes behind %d recs were logged", len(rec), before)
	}
	if got := r.Len(); got != before {
		t.Errorf("%d recs behind a refusal, %d ahead of it", got, before)
	}
}

// loads tells if want are the recs of epoch.
func loads(t *testing.T, r *Ring, epoch uint64, want ...string) {
	t.Helper()
	got := r.Load(epoch)
	if !same(got, want) {
		t.Errorf("epoch %d: %q, want %q", epoch, got, want)
	}
	if r.Len() != len(want) {
		t.Errorf("epoch %d: Len %d, want %d", epoch, r.Len(), len(want))
	}
}

func same(got [][]byte, want []string) bool {
	return slices.EqualFunc(got, want, func(b []byte, s string) bool { return string(b) == s })
}

// checkTrace tells if want, kinds and places in turn, is all that was done behind the first events.
func checkTrace(t *testing.T, what string, d *disk.Disk, behind int, want ...int) {
	t.Helper()
	events := d.Trace()[behind:]
	if len(events) != len(want)/2 {
		t.Fatalf("%s: %d events, want %d", what, len(events), len(want)/2)
	}
	for i, e := range events {
		if e.Kind != want[2*i] || e.At != want[2*i+1] {
			t.Errorf("%s: event %d is %d at %d, want %v", what, i, e.Kind, e.At, want)
		}
	}
}

// reads is the trace of a Load: each place once, in order.
func reads(at, size int) []int {
	var want []int
	for i := range size {
		want = append(want, api.EvRead, at+i)
	}
	return want
}

// 11.1: the chapter's example, on devices of any kind and in logs of any size: none.
func TestNewRings(t *testing.T) {
	for _, blocks := range []int{0, 1, 2, 5} {
		for _, size := range []int{0, 12, 21, 22, least - 1, least, 1000} {
			for at := -2; at < 6; at++ {
				for places := -2; places < 6; places++ {
					d, p := device(blocks, size)
					r := New(p, at, places)
					if r.Len() != 0 {
						t.Errorf("%d recs in a new log", r.Len())
					}
					checkTrace(t, "New", d, 0)
					for _, epoch := range []uint64{0, 1, greatest} {
						loads(t, r, epoch)
					}
				}
			}
		}
	}
}

// 11.1: what Add writes, where, that it is flushed and that nothing else is done; the blocks beside it stay.
func TestAdd(t *testing.T) {
	recs := []string{"a", "", "\x00\x00", "record", strings.Repeat("\xff", 8)}
	for _, size := range []int{least + 8, least + 9, 64, 1000} {
		for _, at := range []int{0, 1, 4} {
			for _, epoch := range epochs() {
				d, p := device(at+7, size)
				r := started(p, at, 6, epoch)
				checkTrace(t, "Start", d, 0)
				want := make([][]byte, d.Blocks())
				for i := range want {
					want[i] = make([]byte, size)
				}
				for i, rec := range recs {
					behind := len(d.Trace())
					adds(t, r, rec)
					checkTrace(t, "Add", d, behind, api.EvWrite, at+i, api.EvFlush, 0)
					want[at+i], _ = seal.Seal(key(), begun, uint64(i), text(epoch, i, rec), size)
					for place := range want {
						if got := d.Stable(place); !bytes.Equal(got, want[place]) {
							t.Fatalf("%q of %d: at %d stands %x, want %x", rec, epoch, place, got, want[place])
						}
					}
				}
				if got := p.Seq(); got != uint64(len(recs)) {
					t.Errorf("%d writes", got)
				}
				loads(t, New(p, at, 6), epoch, recs...)
			}
		}
	}
}

// 11.1: a new log that was not started has no other epoch than 0.
func TestAddToANewRing(t *testing.T) {
	_, p := device(3, 40)
	r := New(p, 0, 3)
	adds(t, r, "a")
	if got, _ := p.Read(0); !bytes.Equal(got, text(0, 0, "a")) {
		t.Errorf("%x", got)
	}
	loads(t, New(p, 0, 3), 0, "a")
	loads(t, New(p, 0, 3), 1)
}

// 11.1: an Add flushes what was written ahead of it, too.
func TestAddFlushesAll(t *testing.T) {
	d, p := device(4, 40)
	p.Write(3, []byte("state"))
	adds(t, started(p, 0, 3, 1), "a")
	d.Crash([]int{1, 1})
	if got, ok := p.Read(3); string(got) != "state" || !ok {
		t.Errorf("%q, %t", got, ok)
	}
	loads(t, New(p, 0, 3), 1, "a")
}

// 11.1: a full log takes nothing: nothing is written, counted or flushed, and no power is needed; so it is when it was loaded full.
func TestFull(t *testing.T) {
	for size := range 6 {
		d, p := device(8, 40)
		r := started(p, 1, size, 3)
		want := make([]string, size)
		for i := range want {
			want[i] = strconv.Itoa(i)
		}
		adds(t, r, want...)
		loaded := New(p, 1, size)
		loads(t, loaded, 3, want...)
		d.Write(0, []byte{1})
		behind := len(d.Trace())
		for _, rec := range [][]byte{nil, {}, {1}, make([]byte, 6), make([]byte, 7)} {
			refuses(t, r, rec)
			refuses(t, loaded, rec)
		}
		checkTrace(t, "Add", d, behind)
		if got := p.Seq(); got != uint64(size) {
			t.Errorf("%d writes of %d recs", got, size)
		}
		d.Cut(0)
		if !disk.Try(func() { refuses(t, r, []byte{1}) }) {
			t.Error("the power went where nothing is done")
		}
		d.Crash([]int{1})
		if d.Read(0)[0] != 0 {
			t.Error("flushed")
		}
		loads(t, r, 3, want...)
		r.Start(4)
		if size > 0 {
			adds(t, r, "next")
			loads(t, loaded, 4, "next")
		}
	}
}

// 11.1: a rec that is longer than a block has room is not logged: nothing is written, counted or flushed, and the next one has its place.
func TestAddWithoutRoom(t *testing.T) {
	for _, size := range []int{least, least + 1, 64, 1000} {
		d, p := device(4, size)
		room := size - least
		r := started(p, 0, 3, 9)
		whole := strings.Repeat("x", room)
		adds(t, r, whole)
		d.Write(3, []byte{1})
		behind := len(d.Trace())
		for _, beyond := range []int{1, 2, 12, 13, 22, 34, 70000} {
			refuses(t, r, make([]byte, room+beyond))
		}
		checkTrace(t, "Add", d, behind)
		if p.Seq() != 1 {
			t.Errorf("%d writes", p.Seq())
		}
		d.Crash([]int{1})
		if d.Read(3)[0] != 0 {
			t.Error("flushed")
		}
		adds(t, r, whole, "")
		refuses(t, r, nil)
		loads(t, New(p, 0, 3), 9, whole, whole, "")
	}
}

// 11.1: blocks that are too small for what stands ahead of a rec take none at all.
func TestBlocksWithoutRoom(t *testing.T) {
	for _, size := range []int{math.MinInt, 0, 1, 11, 12, 21, 22, 30, least - 1} {
		for _, epoch := range []uint64{0, 1, greatest} {
			d, p := device(4, size)
			r := started(p, 0, 3, epoch)
			for _, rec := range [][]byte{nil, {}, {1}, make([]byte, 100)} {
				refuses(t, r, rec)
			}
			d.Cut(0)
			if !disk.Try(func() { refuses(t, r, nil) }) {
				t.Error("the power went where nothing is done")
			}
			d.Crash(nil)
			checkTrace(t, "Add", d, 0, api.EvCrash, 0)
			loads(t, r, epoch)
		}
	}
}

// 11.1: Load reads all places, once and in order, whatever stands there, and does nothing else.
func TestLoadReadsAllPlaces(t *testing.T) {
	for _, at := range []int{-3, 0, 2, 6} {
		for size := range 9 {
			for count := range size + 1 {
				d, p := device(16, 40)
				r := started(p, at, size, 2)
				for range count {
					adds(t, r, "rec")
				}
				for _, epoch := range []uint64{2, 1, 3, 0} {
					behind, seq := len(d.Trace()), p.Seq()
					New(p, at, size).Load(epoch)
					checkTrace(t, "Load", d, behind, reads(at, size)...)
					if p.Seq() != seq {
						t.Error("Load has counted a write")
					}
				}
				behind := len(d.Trace())
				r.Load(2)
				checkTrace(t, "Load", d, behind, reads(at, size)...)
			}
		}
	}
}

// 11.1: the recs end at the first place that has none, whatever stands behind it: all rows of four places.
func TestRecsEndWhereNoneStands(t *testing.T) {
	const size, at, epoch = 4, 2, 500
	kinds := []func(place int) []byte{
		func(place int) []byte { return text(epoch, place, "rec") },
		func(place int) []byte { return text(epoch, place, "") },
		func(place int) []byte { return nil },
		func(place int) []byte { return text(epoch-1, place, "rec") },
		func(place int) []byte { return text(epoch, place+1, "rec") },
	}
	for row := range 5 * 5 * 5 * 5 {
		_, p := device(8, 50)
		// Beside the log there is more of its epoch.
		lay(t, p, at-1, text(epoch, 0, "ahead"))
		lay(t, p, at+size, text(epoch, size, "behind"))
		var want []string
		rest := row
		for place := range size {
			kind := rest % 5
			rest /= 5
			if plain := kinds[kind](place); plain != nil {
				lay(t, p, at+place, plain)
			}
			if kind < 2 && len(want) == place {
				want = append(want, []string{"rec", ""}[kind])
			}
		}
		r := New(p, at, size)
		loads(t, r, epoch, want...)
		if len(want) == size {
			refuses(t, r, nil)
			continue
		}
		// The next rec has the place of the first that had none.
		adds(t, r, "next")
		if got, _ := p.Read(at + len(want)); !bytes.Equal(got, text(epoch, len(want), "next")) {
			t.Errorf("row %d: %x", row, got)
		}
	}
}

// 11.1: each bit of the epoch and of the place's number counts; what is shorter than both is no rec.
func TestEachBitOfAHead(t *testing.T) {
	for place := range 3 {
		whole := text(0x0102030405060708, place, "rec")
		_, p := device(3, 60)
		r := started(p, 0, 3, 0x0102030405060708)
		adds(t, r, "a", "b", "c")
		ahead := []string{"a", "b", "c"}[:place]
		for bit := range 12 * 8 {
			changed := bytes.Clone(whole)
			changed[bit/8] ^= 1 << (bit % 8)
			lay(t, p, place, changed)
			loads(t, r, 0x0102030405060708, ahead...)
		}
		for length := range 12 {
			lay(t, p, place, whole[:length])
			loads(t, r, 0x0102030405060708, ahead...)
			lay(t, p, place, slices.Delete(bytes.Clone(whole), length, length+1))
			loads(t, r, 0x0102030405060708, ahead...)
		}
		lay(t, p, place, whole[:12])
		if got := r.Load(0x0102030405060708); len(got) != 3 || len(got[place]) != 0 {
			t.Errorf("%q", got)
		}
		lay(t, p, place, whole)
		if got := r.Load(0x0102030405060708); len(got) != 3 || string(got[place]) != "rec" {
			t.Errorf("%q", got)
		}
	}
}

// 11.1: each epoch has its own recs alone.
func TestEpochs(t *testing.T) {
	for _, one := range epochs() {
		_, p := device(3, 40)
		r := started(p, 0, 3, one)
		adds(t, r, "one")
		for _, other := range epochs() {
			if other != one {
				loads(t, New(p, 0, 3), other)
			}
		}
		loads(t, New(p, 0, 3), one, "one")
		for bit := range 64 {
			loads(t, New(p, 0, 3), one^1<<bit)
		}
	}
}

// 11.1: from Load on the log is of its epoch, whatever it was of ahead, and goes on behind its recs; so it is where there are none.
func TestLoadChangesTheEpoch(t *testing.T) {
	_, p := device(5, 40)
	adds(t, started(p, 0, 5, 8), "a", "b", "c")
	r := started(p, 0, 5, 1)
	loads(t, r, 8, "a", "b", "c")
	adds(t, r, "d")
	loads(t, New(p, 0, 5), 8, "a", "b", "c", "d")
	loads(t, r, 9)
	adds(t, r, "x")
	loads(t, New(p, 0, 5), 9, "x")
	loads(t, New(p, 0, 5), 8)
	r.Start(10)
	if r.Len() != 0 {
		t.Errorf("%d recs behind Start", r.Len())
	}
	loads(t, New(p, 0, 5), 9, "x")
	adds(t, r, "y")
	loads(t, New(p, 0, 5), 10, "y")
	// A Load of what it is of already changes nothing.
	loads(t, r, 10, "y")
	loads(t, r, 10, "y")
	adds(t, r, "z")
	loads(t, r, 10, "y", "z")
}

// 11.1: Start writes nothing, so that what stands there of the same epoch is still there.
func TestStartOfTheSameEpoch(t *testing.T) {
	d, p := device(3, 40)
	r := started(p, 0, 3, 6)
	adds(t, r, "a", "b")
	behind := len(d.Trace())
	r.Start(6)
	checkTrace(t, "Start", d, behind)
	if r.Len() != 0 {
		t.Errorf("%d recs behind Start", r.Len())
	}
	adds(t, r, "c")
	if r.Len() != 1 {
		t.Errorf("%d recs", r.Len())
	}
	loads(t, r, 6, "c", "b")
}

// 11.1: Start, Len and New do nothing on the device, and so need no power.
func TestNoPowerNeeded(t *testing.T) {
	d, p := device(3, 40)
	d.Cut(0)
	stayed := disk.Try(func() {
		r := New(p, 0, 3)
		r.Start(greatest)
		r.Len()
		New(p, 0, 0).Load(1)
		New(p, 0, 0).Add(nil)
	})
	if !stayed || len(d.Trace()) != 0 {
		t.Error("the power went where nothing is done")
	}
}

// 11.1: a log has its own places alone: a shorter one the first recs, another one beside it none of them.
func TestOwnPlaces(t *testing.T) {
	_, p := device(20, 40)
	first, second := started(p, 1, 3, 4), started(p, 4, 3, 4)
	adds(t, first, "a", "b", "c")
	adds(t, second, "x")
	loads(t, first, 4, "a", "b", "c")
	loads(t, second, 4, "x")
	loads(t, New(p, 1, 2), 4, "a", "b")
	loads(t, New(p, 1, 6), 4, "a", "b", "c")
	loads(t, New(p, 2, 3), 4)
	loads(t, New(p, 0, 3), 4)
}

// 11.1: two logs of one kind know nothing of each other but what stands on the device.
func TestTwoRings(t *testing.T) {
	_, p := device(4, 40)
	one, other := started(p, 0, 4, 4), started(p, 0, 4, 4)
	adds(t, one, "a", "b")
	if other.Len() != 0 {
		t.Errorf("%d recs in the other", other.Len())
	}
	loads(t, other, 4, "a", "b")
	adds(t, other, "c")
	if one.Len() != 2 {
		t.Errorf("%d recs in the one", one.Len())
	}
	one.Start(5)
	loads(t, other, 4, "a", "b", "c")
}

// 11.1: the size is held to 0 to 100,000, for Load and for Add.
func TestGreatestRing(t *testing.T) {
	for _, size := range []int{most, most + 1, math.MaxInt} {
		d, p := device(most, least)
		r := started(p, 0, size, 1)
		for range most {
			if !r.Add(nil) {
				t.Fatalf("behind %d: not logged", r.Len())
			}
		}
		refuses(t, r, nil)
		behind := len(d.Trace())
		if got := New(p, 0, size).Load(1); len(got) != most {
			t.Errorf("%d recs", len(got))
		}
		if got := len(d.Trace()) - behind; got != most {
			t.Errorf("%d reads", got)
		}
	}
	for _, size := range []int{math.MinInt, -most, -2, -1, 0} {
		d, p := device(3, least)
		r := New(p, 0, size)
		loads(t, r, 0)
		r.Start(1)
		refuses(t, r, nil)
		loads(t, r, 1)
		checkTrace(t, "none", d, 0)
	}
}

// 11.1: the place's number is of four bytes, the least first: far places, too.
func TestFarPlaces(t *testing.T) {
	_, p := device(70010, 40)
	r := started(p, 3, 70000, 2)
	for range 66000 {
		r.Add([]byte("rec"))
	}
	for _, place := range []int{0, 255, 256, 257, 65535, 65536, 65537, 65999} {
		if got, _ := p.Read(3 + place); !bytes.Equal(got, text(2, place, "rec")) {
			t.Errorf("place %d: %x", place, got)
		}
	}
	if got := New(p, 3, 70000).Load(2); len(got) != 66000 {
		t.Errorf("%d recs", len(got))
	}
}

// 11.1: places that are none take a rec and keep none; they count as a write, a flush and a read.
func TestPlacesThatAreNone(t *testing.T) {
	for _, at := range []int{math.MinInt, -1000, -3, 5, 1000, 1 << 32, math.MaxInt - 3, math.MaxInt - 1, math.MaxInt} {
		d, p := device(5, 40)
		r := started(p, at, 3, 4)
		for i := range 3 {
			behind := len(d.Trace())
			adds(t, r, "rec")
			checkTrace(t, "Add", d, behind, api.EvWrite, at+i, api.EvFlush, 0)
		}
		refuses(t, r, nil)
		behind := len(d.Trace())
		loads(t, r, 4)
		checkTrace(t, "Load", d, behind, reads(at, 3)...)
		for i := range d.Blocks() {
			if !bytes.Equal(d.Read(i), make([]byte, 40)) {
				t.Errorf("at %d: the block at %d was changed", at, i)
			}
		}
	}
	// Of a log that goes beyond the last place those recs stand that have one.
	_, p := device(5, 40)
	r := started(p, 3, 4, 4)
	adds(t, r, "a", "b", "c", "d")
	loads(t, r, 4, "a", "b")
	// And of one that begins ahead of the first place none, as its own first place has none.
	r = started(p, -1, 4, 5)
	adds(t, r, "a", "b", "c", "d")
	loads(t, r, 5)
}

// 11.1: blocks that are not sealed, that were garbled, or are sealed with another key are none; those of another boot are.
func TestBlocksOfOthers(t *testing.T) {
	d, p := device(3, 60)
	d.Write(0, text(1, 0, "rec"))
	loads(t, New(p, 0, 3), 1)
	other := key()
	other[31] ^= 1
	adds(t, started(pen.New(d, other, begun), 0, 3, 1), "rec")
	loads(t, New(p, 0, 3), 1)
	adds(t, started(pen.New(d, key(), begun+1), 0, 3, 1), "a", "b")
	loads(t, New(p, 0, 3), 1, "a", "b")
	loads(t, New(pen.New(d, key(), begun+2), 0, 3), 1, "a", "b")
	for place := range 2 {
		b := d.Read(place)
		for i := range b {
			b[i] ^= 1
			d.Write(place, b)
			loads(t, New(p, 0, 3), 1, []string{"a", "b"}[:place]...)
			b[i] ^= 1
		}
		d.Write(place, b)
	}
	loads(t, New(p, 0, 3), 1, "a", "b")
}

// 11.1: Load tells what was written last, flushed or not.
func TestLoadOfWhatIsNotFlushed(t *testing.T) {
	d, p := device(3, 40)
	adds(t, started(p, 0, 3, 1), "a")
	p.Write(1, text(1, 1, "b"))
	loads(t, New(p, 0, 3), 1, "a", "b")
	d.Crash([]int{1})
	loads(t, New(p, 0, 3), 1, "a")
}

// 11.1: a rec that is handed in is neither changed nor kept, nor is the room behind it.
func TestRecsAreNotKept(t *testing.T) {
	_, p := device(3, 60)
	r := started(p, 0, 3, 1)
	whole := []byte("record and what is behind")
	before := bytes.Clone(whole)
	if !r.Add(whole[:6]) || !bytes.Equal(whole, before) {
		t.Errorf("%q", whole)
	}
	clear(whole)
	adds(t, r, "b")
	loads(t, r, 1, "record", "b")
}

// 11.1: what Load answers is new memory, the spare room, too, and no two of its lists share any.
func TestAnswersShareNothing(t *testing.T) {
	_, p := device(9, 60)
	r := started(p, 0, 9, 1)
	want := []string{"", "a", "record", "", "b", "another record", "c"}
	adds(t, r, want...)
	one, other := r.Load(1), r.Load(1)
	for i := range one {
		whole := one[i][:cap(one[i])]
		for j := range whole {
			whole[j] ^= 255
		}
		for j, rec := range one {
			if j > i && string(rec) != want[j] {
				t.Errorf("rec %d was changed through rec %d", j, i)
			}
		}
	}
	spare := one[:cap(one)]
	for i := range spare {
		spare[i] = nil
	}
	if !same(other, want) {
		t.Errorf("%q", other)
	}
	loads(t, r, 1, want...)
}

// 11.2: in long runs of epochs, each with as many recs as may be, Load has those of the last one, whatever the ones ahead left there.
func TestManyEpochs(t *testing.T) {
	r := rand.New(rand.NewSource(112))
	for range 30 {
		size := 1 + r.Intn(8)
		d := disk.New(size+3, 60)
		for epoch := range uint64(60) {
			p := pen.New(d, key(), uint32(epoch))
			log := New(p, 2, size)
			if r.Intn(2) == 0 {
				log.Load(epoch - 1)
			}
			log.Start(epoch)
			var want []string
			for range r.Intn(size + 1) {
				rec := make([]byte, r.Intn(27))
				r.Read(rec)
				want = append(want, string(rec))
				adds(t, log, string(rec))
				d.Crash([]int{1 + r.Intn(2)})
				loads(t, New(p, 2, size), epoch, want...)
			}
			loads(t, log, epoch, want...)
			loads(t, New(p, 2, size), epoch+1)
		}
	}
}

// 11.2: recs that look like those of another epoch or place are recs like others.
func TestRecsThatLookLikeHeads(t *testing.T) {
	_, p := device(4, 100)
	recs := []string{string(text(2, 0, "x")), string(text(1, 1, "")), string(text(1, 0, string(text(1, 2, "y")))), string(make([]byte, 24))}
	r := started(p, 0, 4, 1)
	adds(t, r, recs...)
	loads(t, New(p, 0, 4), 1, recs...)
	loads(t, New(p, 0, 4), 2)
	adds(t, started(p, 0, 4, 2), recs[2])
	loads(t, New(p, 0, 4), 2, recs[2])
}

// life is how one Add may go: the power goes ahead of its step cut (there are two), with a choice for a write that was not flushed; below 0 it does not go.
type life struct{ cut, choice int }

func lives() []life {
	all := []life{{-1, 0}}
	for cut := range 2 {
		for choice := range 3 {
			all = append(all, life{cut, choice})
		}
	}
	return all
}

// history is a device with a log at its end, begun again behind each loss of power.
type history struct {
	d        *disk.Disk
	at, size int
	boots    uint32
	log      *Ring
	epoch    uint64
	want     []string // the recs of the epoch
	count    int      // how many Adds there were
}

func newHistory(d *disk.Disk, at, size int) *history {
	h := &history{d: d, at: at, size: size}
	h.begin()
	h.log.Start(0)
	return h
}

// begin is a new beginning: a new boot, and a log that knows nothing.
func (h *history) begin() {
	h.boots++
	h.log = New(pen.New(h.d, key(), h.boots), h.at, h.size)
}

// next starts the next epoch where the log is full.
func (h *history) next() {
	if len(h.want) < h.size {
		return
	}
	h.epoch++
	h.want = nil
	h.log.Start(h.epoch)
}

// add is one Add that may be cut; other choices are those of writes ahead of it. Behind it all recs that had answered are there again, and the one that had not as a whole or not at all.
func (h *history) add(t *testing.T, l life, choices ...int) {
	t.Helper()
	h.next()
	h.count++
	rec, answered := strconv.Itoa(h.count), false
	h.d.Cut(l.cut)
	stayed := disk.Try(func() { answered = h.log.Add([]byte(rec)) })
	if stayed != (l.cut < 0) || stayed != answered {
		t.Fatalf("%v: answered %t, power %t", l, answered, stayed)
	}
	if got := h.log.Len(); stayed && got != len(h.want)+1 || !stayed && got != len(h.want) {
		t.Fatalf("%v: %d recs in the log behind %d", l, got, len(h.want))
	}
	if stayed || l.cut == 1 && l.choice == 0 {
		h.want = append(h.want, rec)
	}
	if stayed {
		return
	}
	h.d.Crash(append(choices, l.choice))
	h.begin()
	loads(t, h.log, h.epoch, h.want...)
}

// check is what the device tells without a loss of power.
func (h *history) check(t *testing.T) {
	t.Helper()
	h.begin()
	loads(t, h.log, h.epoch, h.want...)
}

// 11.2, W2: recs that were logged are there again, in all rows of five Adds, of which each may lose its power at each step, its write kept, lost or garbled, in logs that begin the next epoch where they are full.
func TestRecsAreThereAgain(t *testing.T) {
	all := lives()
	rows := len(all) * len(all) * len(all) * len(all) * len(all)
	for size := 1; size < 4; size++ {
		for row := range rows {
			h, rest := newHistory(disk.New(size, 40), 0, size), row
			for range 5 {
				h.add(t, all[rest%len(all)])
				rest /= len(all)
			}
			h.check(t)
			h.add(t, life{-1, 0})
			h.check(t)
		}
	}
}

// 11.2, W2: so it is in long rows, with other writes that are not flushed ahead of the Add.
func TestLongRowsOfAdds(t *testing.T) {
	r := rand.New(rand.NewSource(211))
	all := lives()
	for range 30 {
		size := 1 + r.Intn(9)
		h := newHistory(disk.New(size+5, 40+r.Intn(40)), 3, size)
		for range 200 {
			choices := make([]int, 4)
			for i := range choices {
				h.d.Write([]int{0, 2, 3 + size}[r.Intn(3)], text(h.epoch, i, "other"))
				choices[i] = r.Intn(3)
			}
			h.add(t, all[r.Intn(len(all))], choices...)
			if r.Intn(4) == 0 {
				h.check(t)
			}
		}
	}
}

// 11.2: a rec over one of an older epoch, of which the write is lost or garbled: neither that one nor what stands behind it is taken for one of this epoch.
func TestWhatStoodThereInOtherEpochs(t *testing.T) {
	for choice, want := range [][]string{{"x", "y"}, {"x"}, {"x"}} {
		d, p := device(4, 40)
		adds(t, started(p, 0, 4, 1), "a", "b", "c", "d")
		r := started(p, 0, 4, 2)
		adds(t, r, "x")
		d.Cut(1)
		if disk.Try(func() { r.Add([]byte("y")) }) {
			t.Fatal("the power stayed")
		}
		d.Crash([]int{choice})
		again := New(pen.New(d, key(), begun+1), 0, 4)
		loads(t, again, 2, want...)
		adds(t, again, "z")
		loads(t, New(p, 0, 4), 2, append(want, "z")...)
	}
}

// 11.3: the power's panic goes on, from each step; nothing else needs power, and the log stays as it was.
func TestPowerGoes(t *testing.T) {
	for _, c := range []struct {
		steps int
		call  func(r *Ring)
	}{
		{0, func(r *Ring) { r.Start(5) }},
		{0, func(r *Ring) { r.Len() }},
		{2, func(r *Ring) { r.Add(nil) }},
		{2, func(r *Ring) { r.Add([]byte("rec")) }},
		{4, func(r *Ring) { r.Load(0) }},
		{4, func(r *Ring) { r.Load(greatest) }},
	} {
		for cut := range 6 {
			d, p := device(4, 40)
			r := started(p, 0, 4, 3)
			adds(t, r, "a", "b")
			behind := len(d.Trace())
			d.Cut(cut)
			if stayed := disk.Try(func() { c.call(r) }); stayed != (cut >= c.steps) {
				t.Errorf("behind %d of %d: power %t", cut, c.steps, stayed)
			} else if !stayed && r.Len() != 2 {
				t.Errorf("%d recs behind a loss of power", r.Len())
			}
			if got := len(d.Trace()) - behind; got != min(cut, c.steps) {
				t.Errorf("%d events, want %d", got, min(cut, c.steps))
			}
		}
	}
}

// 11.3: where the power goes in a Load the log is still of the epoch it was of.
func TestPowerGoesInALoad(t *testing.T) {
	for cut := range 4 {
		d, p := device(4, 40)
		r := started(p, 0, 4, 3)
		adds(t, r, "a", "b")
		d.Cut(cut)
		if disk.Try(func() { r.Load(8) }) {
			t.Fatal("the power stayed")
		}
		d.Crash(nil)
		adds(t, r, "c")
		loads(t, New(p, 0, 4), 3, "a", "b", "c")
	}
}

// 11.3: whatever is given, no call panics where there is power.
func TestNoCallPanics(t *testing.T) {
	ends := []int{math.MinInt, math.MinInt + 1, -100001, -2, -1, 0, 1, 2, 3, 99999, 100000, 100001, 1 << 32, math.MaxInt - 1, math.MaxInt}
	sizes := []int{math.MinInt, -1, 0, 1, 2, 3}
	recs := [][]byte{nil, {}, {0}, make([]byte, 2), make([]byte, 70000)}
	for _, blocks := range []int{math.MinInt, -1, 0, 1, 3, math.MaxInt} {
		for _, size := range []int{math.MinInt, -1, 0, 1, 11, 12, 21, 22, 23, 33, 34, 35, 36, 1000} {
			_, p := device(blocks, size)
			for _, at := range ends {
				for _, places := range sizes {
					r := New(p, at, places)
					for _, epoch := range []uint64{0, 1, greatest} {
						for _, rec := range recs {
							r.Add(rec)
						}
						r.Load(epoch)
						r.Add(recs[1])
						r.Start(epoch)
						r.Len()
					}
				}
			}
		}
	}
	for _, at := range ends {
		_, p := device(0, 0)
		r := New(p, at, math.MaxInt)
		r.Load(greatest)
		r.Add(nil)
	}
	_, p := device(2, math.MaxInt)
	r := started(p, 0, math.MaxInt, greatest)
	adds(t, r, strings.Repeat("x", 59966))
	refuses(t, r, make([]byte, 59967))
}

// 11.3: any bytes and any texts on the device are read without a panic.
func TestLoadOfAnyBytes(t *testing.T) {
	r := rand.New(rand.NewSource(113))
	for range 3000 {
		size := r.Intn(60)
		b := make([]byte, size)
		r.Read(b)
		d, p := device(2, size)
		d.Write(0, b)
		d.Write(1, b)
		loads(t, New(p, 0, 2), 0)
		p.Write(0, b[:max(size-22, 0)])
		p.Write(1, b[:max(size-22, 0)])
		loads(t, New(p, 0, 2), 0)
	}
}
