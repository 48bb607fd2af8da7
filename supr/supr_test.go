package supr

import (
	"bytes"
	"encoding/binary"
	"math"
	"math/rand"
	"testing"

	"dumbwaiter/api"
	"dumbwaiter/disk"
	"dumbwaiter/pen"
	"dumbwaiter/seal"
)

const (
	least    = 35 // the size of the least blocks that have room for an epoch
	greatest = math.MaxUint64
	begun    = 7 // the boot of the pens
)

// key is one of which no byte is as another.
func key() [32]byte {
	var key [32]byte
	for i := range key {
		key[i] = byte(i + 1)
	}
	return key
}

// text is what tells n, apart from the layers below.
func text(n uint64) []byte {
	return binary.LittleEndian.AppendUint64([]byte("epoch"), n)
}

// epochs are the edges of each byte of an epoch, even and odd, and epochs whose bytes all differ.
func epochs() []uint64 {
	list := []uint64{0, 1, 2, 3, 0x0102030405060708, 0xf7e6d5c4b3a29180, greatest - 1, greatest}
	for bits := 8; bits < 64; bits += 8 {
		list = append(list, 1<<bits-2, 1<<bits-1, 1<<bits, 1<<bits+1)
	}
	return append(list, 1<<63-2, 1<<63-1, 1<<63, 1<<63+1)
}

// device is a new device, with a pen for it.
func device(blocks, size int) (*disk.Disk, *pen.Pen) {
	d := disk.New(blocks, size)
	return d, pen.New(d, key(), begun)
}

// lay writes plain at at, sealed, and flushes it.
func lay(t *testing.T, p *pen.Pen, at int, plain []byte) {
	t.Helper()
	if !p.Write(at, plain) {
		t.Fatalf("%d bytes at %d were not written", len(plain), at)
	}
	p.Flush()
}

// commits tells if n is committed.
func commits(t *testing.T, p *pen.Pen, at int, n uint64) {
	t.Helper()
	if !Commit(p, at, n) {
		t.Fatalf("%d at %d was not committed", n, at)
	}
}

// holds tells if n is what Last answers.
func holds(t *testing.T, p *pen.Pen, at int, n uint64) {
	t.Helper()
	if got, ok := Last(p, at); got != n || !ok {
		t.Errorf("at %d: %d, %t, want %d", at, got, ok, n)
	}
}

// none tells if no epoch holds, and that nothing stands beside the false.
func none(t *testing.T, p *pen.Pen, at int) {
	t.Helper()
	if got, ok := Last(p, at); got != 0 || ok {
		t.Errorf("at %d: %d, %t", at, got, ok)
	}
}

// checkTrace tells if want, kinds and places in turn, is all that was done behind the first events.
func checkTrace(t *testing.T, what string, d *disk.Disk, behind int, want ...int) {
	t.Helper()
	events := d.Trace()[behind:]
	if len(events) != len(want)/2 {
		t.Fatalf("%s: %d events, want %d", what, len(events), len(want)/2)
	}
	for i, e := range events {
		if e.Kind != want[2*i] || e.At != want[2*i+1] {
			t.Errorf("%s: event %d is %d at %d, want %v", what, i, e.Kind, e.At, want)
		}
	}
}

// 10.1: the chapter's example, on devices of any kind: none holds.
func TestNewDevices(t *testing.T) {
	for _, blocks := range []int{0, 1, 2, 5} {
		for _, size := range []int{0, 12, 21, 22, least - 1, least, 1000} {
			_, p := device(blocks, size)
			for at := -2; at < 6; at++ {
				none(t, p, at)
			}
		}
	}
}

// 10.1: what Commit writes, where, that it is flushed and that nothing else is done; the blocks beside it stay.
func TestCommit(t *testing.T) {
	for _, size := range []int{least, least + 1, 64, 1000} {
		for _, at := range []int{0, 1, 4} {
			for _, n := range epochs() {
				d, p := device(at+4, size)
				place := at + int(n%2)
				before := d.Read(place)
				behind := len(d.Trace())
				commits(t, p, at, n)
				checkTrace(t, "Commit", d, behind, api.EvWrite, place, api.EvFlush, 0)
				want, _ := seal.Seal(key(), begun, 0, text(n), size)
				for i := range d.Blocks() {
					if got := d.Stable(i); i == place && !bytes.Equal(got, want) {
						t.Errorf("%d at %d: %x, want %x", n, i, got, want)
					} else if i != place && !bytes.Equal(got, before) {
						t.Errorf("%d at %d: the block at %d was changed", n, at, i)
					}
				}
				if got := p.Seq(); got != 1 {
					t.Errorf("%d writes", got)
				}
				holds(t, p, at, n)
			}
		}
	}
}

// 10.1: a commit flushes what was written ahead of it, too, so that what an epoch tells of stands when it holds.
func TestCommitFlushesAll(t *testing.T) {
	for n := range uint64(2) {
		d, p := device(4, 40)
		p.Write(3, []byte("state"))
		commits(t, p, 0, n)
		d.Crash([]int{1, 1})
		if got, ok := p.Read(3); string(got) != "state" || !ok {
			t.Errorf("%q, %t", got, ok)
		}
		holds(t, p, 0, n)
	}
}

// 10.1: where a block has no room nothing is written, counted or flushed.
func TestCommitWithoutRoom(t *testing.T) {
	for _, size := range []int{math.MinInt, 0, 1, 12, 21, 22, 30, least - 1} {
		for _, n := range epochs() {
			d, p := device(3, size)
			d.Write(2, []byte{1})
			behind := len(d.Trace())
			for _, at := range []int{0, 1, 2, -1, 1000} {
				if Commit(p, at, n) {
					t.Errorf("%d was committed in %d bytes", n, size)
				}
			}
			checkTrace(t, "Commit", d, behind)
			if p.Seq() != 0 {
				t.Errorf("%d writes", p.Seq())
			}
			d.Crash([]int{1})
			if got := d.Read(2); size > 0 && got[0] != 0 {
				t.Error("flushed")
			}
			none(t, p, 0)
		}
	}
}

// 10.1: where nothing is written no power is needed.
func TestCommitWithoutRoomNeedsNoPower(t *testing.T) {
	d, p := device(3, least-1)
	d.Cut(0)
	if !disk.Try(func() { Commit(p, 0, 1) }) {
		t.Error("the power went where nothing is done")
	}
}

// 10.1: Last is the greater one of the two places, each of which tells its own kind of epochs alone; both are read, whatever they tell, and nothing else is done.
func TestLast(t *testing.T) {
	for i, c := range []struct {
		first, second []byte
		want          uint64
		ok            bool
	}{
		{nil, nil, 0, false},
		{text(0), nil, 0, true},
		{nil, text(1), 1, true},
		{text(0), text(1), 1, true},
		{text(2), text(1), 2, true},
		{text(2), text(3), 3, true},
		{text(10), text(3), 10, true},
		{text(4), text(999), 999, true},
		{text(256), text(255), 256, true},
		{text(65534), text(65535), 65535, true},
		{text(1 << 32), text(1<<32 - 1), 1 << 32, true},
		{text(1 << 63), text(1<<63 - 1), 1 << 63, true},
		{text(0), text(greatest), greatest, true},
		{text(greatest - 1), text(greatest), greatest, true},
		{text(greatest - 1), text(1), greatest - 1, true},
		// In the other's place an epoch is none, however great.
		{text(1), nil, 0, false},
		{nil, text(0), 0, false},
		{nil, text(2), 0, false},
		{text(5), text(4), 0, false},
		{text(9), text(3), 3, true},
		{text(2), text(8), 2, true},
		{text(0), text(8), 0, true},
		{text(greatest), text(3), 3, true},
		{text(2), text(greatest - 1), 2, true},
		// A text that is none says nothing of the other place.
		{[]byte("other"), text(7), 7, true},
		{text(6), []byte("other"), 6, true},
		{text(0), []byte("other"), 0, true},
		{[]byte("other"), []byte("other"), 0, false},
		{[]byte{}, text(7), 7, true},
	} {
		for _, at := range []int{0, 1, 3} {
			d, p := device(at+3, 60)
			lay(t, p, at+2, text(78))
			if at > 0 {
				lay(t, p, at-1, text(87))
			}
			for place, plain := range [][]byte{c.first, c.second} {
				if plain != nil {
					lay(t, p, at+place, plain)
				}
			}
			behind, seq := len(d.Trace()), p.Seq()
			if got, ok := Last(p, at); got != c.want || ok != c.ok {
				t.Errorf("%d at %d: %d, %t, want %d, %t", i, at, got, ok, c.want, c.ok)
			}
			checkTrace(t, "Last", d, behind, api.EvRead, at, api.EvRead, at+1)
			if p.Seq() != seq {
				t.Error("Last has counted a write")
			}
		}
	}
}

// 10.1: Last is back from Commit, for each two epochs: the greater one of an even and an odd one, the later one of two of a kind.
func TestLastIsBack(t *testing.T) {
	for _, one := range epochs() {
		for _, other := range epochs() {
			_, p := device(3, least)
			commits(t, p, 1, one)
			commits(t, p, 1, other)
			want := other
			if one%2 != other%2 {
				want = max(one, other)
			}
			holds(t, p, 1, want)
			holds(t, p, 1, want)
		}
	}
}

// 10.1: texts that are no "epoch" with 8 bytes tell none, in either place.
func TestOtherTexts(t *testing.T) {
	for place := range 2 {
		n := uint64(0x0102030405060700 + place)
		whole := text(n)
		texts := [][]byte{nil, []byte("epoch"), append(bytes.Clone(whole), 0), append([]byte{0}, whole...), append(bytes.Clone(whole), whole...), whole[5:], []byte("Epoch" + string(whole[5:])), []byte("EPOCH" + string(whole[5:])), make([]byte, len(whole))}
		for length := range whole {
			texts = append(texts, whole[:length], whole[length+1:])
		}
		// Any bit of the word.
		for bit := range 5 * 8 {
			changed := bytes.Clone(whole)
			changed[bit/8] ^= 1 << (bit % 8)
			texts = append(texts, changed)
		}
		for _, plain := range texts {
			_, p := device(2, 60)
			lay(t, p, place, plain)
			none(t, p, 0)
			commits(t, p, 0, n^1)
			holds(t, p, 0, n^1)
		}
	}
}

// 10.1: each bit of the epoch counts, the lowest one for its place, too.
func TestEachBitOfAnEpoch(t *testing.T) {
	for bit := range 64 {
		for _, n := range []uint64{1 << bit, greatest - 1<<bit} {
			_, p := device(2, least)
			lay(t, p, int(n%2), text(n))
			holds(t, p, 0, n)
			lay(t, p, 1-int(n%2), text(n))
			holds(t, p, 0, n)
			_, p = device(2, least)
			lay(t, p, 1-int(n%2), text(n))
			none(t, p, 0)
		}
	}
}

// 10.1: blocks that are not sealed, or sealed with another key, tell none; those of another boot do.
func TestBlocksOfOthers(t *testing.T) {
	for place := range 2 {
		n := uint64(place)
		d, p := device(2, 60)
		d.Write(place, text(n))
		none(t, p, 0)
		other := key()
		other[31] ^= 1
		commits(t, pen.New(d, other, begun), 0, n)
		none(t, p, 0)
		commits(t, pen.New(d, key(), begun+1), 0, n)
		holds(t, p, 0, n)
		holds(t, pen.New(d, key(), begun+2), 0, n)
		b := d.Read(place)
		for i := range b {
			b[i] ^= 1
			d.Write(place, b)
			none(t, p, 0)
			b[i] ^= 1
		}
	}
}

// 10.1: places that are none tell none and take none, but count as a write, a flush and two reads; a commit there has no fault to tell.
func TestPlacesThatAreNone(t *testing.T) {
	for _, at := range []int{math.MinInt, -1000, -2, -1, 1, 2, 1000, math.MaxInt - 1, math.MaxInt} {
		for n := uint64(4); n < 6; n++ {
			d, p := device(2, 40)
			behind := len(d.Trace())
			commits(t, p, at, n)
			checkTrace(t, "Commit", d, behind, api.EvWrite, at+int(n%2), api.EvFlush, 0)
			behind = len(d.Trace())
			if place := at + int(n%2); place == 0 || place == 1 {
				holds(t, p, at, n)
			} else {
				none(t, p, at)
			}
			checkTrace(t, "Last", d, behind, api.EvRead, at, api.EvRead, at+1)
		}
	}
}

// 10.1: Last tells what was written last, flushed or not.
func TestLastOfWhatIsNotFlushed(t *testing.T) {
	d, p := device(2, 40)
	commits(t, p, 0, 4)
	p.Write(1, text(5))
	holds(t, p, 0, 5)
	d.Crash([]int{1})
	holds(t, p, 0, 4)
}

// 10.2: an epoch that was committed in order stays: Last is each one in turn, far on.
func TestEpochsInOrder(t *testing.T) {
	for _, start := range []uint64{0, 1, 254, 65534, 1<<32 - 2, 1<<63 - 3, greatest - 300} {
		d, p := device(2, least)
		for n := start; n < start+300; n++ {
			commits(t, p, 0, n)
			d.Crash([]int{1})
			holds(t, p, 0, n)
		}
	}
}

// life is how one commit may go: the power goes ahead of its step cut (there are two), with a choice for a write that was not flushed; below 0 it does not go.
type life struct{ cut, choice int }

func lives() []life {
	all := []life{{-1, 0}}
	for cut := range 2 {
		for choice := range 3 {
			all = append(all, life{cut, choice})
		}
	}
	return all
}

// history is a device, begun again for each commit, and the epoch that holds there.
type history struct {
	d     *disk.Disk
	at    int
	boots uint32
	last  uint64
	holds bool
}

// commit is one commit of the epoch behind the one that holds, that may be cut; other choices are those of writes ahead of it. Behind it that epoch holds, or, if it had not answered, the one ahead.
func (h *history) commit(t *testing.T, l life, choices ...int) {
	t.Helper()
	h.boots++
	p, next := pen.New(h.d, key(), h.boots), h.last
	if h.holds {
		next++
	}
	answered := false
	h.d.Cut(l.cut)
	stayed := disk.Try(func() { answered = Commit(p, h.at, next) })
	h.d.Crash(append(choices, l.choice))
	n, ok := Last(p, h.at)
	isNext, isLast := ok && n == next, ok == h.holds && n == h.last
	written := l.cut < 0 || l.cut == 1 && l.choice == 0
	switch {
	case stayed != (l.cut < 0) || stayed != answered:
		t.Fatalf("%v: answered %t, power %t", l, answered, stayed)
	case written && !isNext || !written && !isLast:
		t.Fatalf("%v: %d, %t holds behind %d, %t", l, n, ok, h.last, h.holds)
	}
	h.last, h.holds = n, ok
}

// 10.2, W2: the epoch holds or the one ahead of it does, in all rows of five commits, of which each may lose its power at each step, its write kept, lost or garbled.
func TestAnEpochHoldsOrTheOneAhead(t *testing.T) {
	all := lives()
	rows := len(all) * len(all) * len(all) * len(all) * len(all)
	for row := range rows {
		h, rest := &history{d: disk.New(2, least)}, row
		for range 5 {
			h.commit(t, all[rest%len(all)])
			rest /= len(all)
		}
		h.commit(t, life{-1, 0})
	}
}

// 10.2, W2: so it is in long rows, with other writes that are not flushed ahead of the commit.
func TestLongRowsOfCommits(t *testing.T) {
	r := rand.New(rand.NewSource(102))
	all := lives()
	for range 30 {
		h := &history{d: disk.New(6, least+r.Intn(40)), at: 2}
		for range 200 {
			choices := make([]int, 4)
			for i := range choices {
				h.d.Write(4+i%2, text(r.Uint64()))
				choices[i] = r.Intn(3)
			}
			h.commit(t, all[r.Intn(len(all))], choices...)
		}
	}
}

// 10.2: what a commit leaves behind where its write was lost or garbled, for epochs of all sizes.
func TestTheEpochAheadStands(t *testing.T) {
	for _, n := range epochs() {
		if n < 2 {
			continue
		}
		for choice, want := range []uint64{n, n - 1, n - 1} {
			d, p := device(2, least)
			commits(t, p, 0, n-2)
			commits(t, p, 0, n-1)
			d.Cut(1)
			if disk.Try(func() { Commit(p, 0, n) }) {
				t.Fatal("the power stayed")
			}
			d.Crash([]int{choice})
			holds(t, p, 0, want)
		}
	}
}

// 10.3: the power's panic goes on, from each step; nothing else needs power.
func TestPowerGoes(t *testing.T) {
	for _, call := range []func(p *pen.Pen){
		func(p *pen.Pen) { Commit(p, 0, 0) },
		func(p *pen.Pen) { Commit(p, 0, 1) },
		func(p *pen.Pen) { Commit(p, 9, greatest) },
		func(p *pen.Pen) { Last(p, 0) },
		func(p *pen.Pen) { Last(p, -9) },
	} {
		for cut := range 3 {
			d, p := device(2, least)
			d.Cut(cut)
			if stayed := disk.Try(func() { call(p) }); stayed != (cut == 2) {
				t.Errorf("behind %d: power %t", cut, stayed)
			}
			if got := len(d.Trace()); got != cut {
				t.Errorf("%d events, want %d", got, cut)
			}
		}
	}
}

// 10.3: whatever is given, no call panics where there is power.
func TestNoCallPanics(t *testing.T) {
	ends := []int{math.MinInt, math.MinInt + 1, -100001, -2, -1, 0, 1, 2, 3, 99999, 100000, 100001, 1 << 32, math.MaxInt - 1, math.MaxInt}
	for _, blocks := range []int{math.MinInt, -1, 0, 1, 2, 3, 100000, math.MaxInt} {
		for _, size := range []int{math.MinInt, -1, 0, 1, 11, 12, 21, 22, 23, 27, 34, 35, 36, 1000} {
			_, p := device(blocks, size)
			for _, at := range ends {
				for _, n := range []uint64{0, 1, 1 << 63, greatest} {
					Last(p, at)
					Commit(p, at, n)
				}
				Last(p, at)
			}
		}
	}
	_, p := device(2, math.MaxInt)
	commits(t, p, 0, greatest)
	holds(t, p, 0, greatest)
}

// 10.3: any bytes and any texts on the device are read without a panic.
func TestLastOfAnyBytes(t *testing.T) {
	r := rand.New(rand.NewSource(103))
	for range 3000 {
		size := r.Intn(60)
		b := make([]byte, size)
		r.Read(b)
		d, p := device(2, size)
		d.Write(0, b)
		d.Write(1, b)
		none(t, p, 0)
		p.Write(0, b[:max(size-22, 0)])
		p.Write(1, b[:max(size-22, 0)])
		none(t, p, 0)
	}
}
