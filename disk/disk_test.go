package disk

import (
	"bytes"
	"errors"
	"math"
	"math/rand"
	"runtime"
	"slices"
	"testing"

	"dumbwaiter/api"
)

// noPlaces are places that are none of a device of n blocks.
func noPlaces(n int) []int {
	return []int{n, n + 1, n + 1000, -1, -2, -n, -1000, math.MaxInt, math.MaxInt - 1, math.MinInt, math.MinInt + 1, math.MaxInt32 + 1, 1 << 32, 1<<32 + n - 1}
}

// full is a block of size bytes that begins with b.
func full(b []byte, size int) []byte {
	whole := make([]byte, size)
	copy(whole, b)
	return whole
}

// headOf is what an event shows of b.
func headOf(b []byte) [12]byte {
	var head [12]byte
	copy(head[:], b)
	return head
}

// counted are the three calls that need power, at places that are some and at places that are none.
func counted(d *Disk) []func() {
	return []func(){
		func() { d.Read(0) }, func() { d.Read(-1) }, func() { d.Read(d.Blocks()) },
		func() { d.Write(0, []byte{77}) }, func() { d.Write(0, nil) }, func() { d.Write(-1, []byte{77}) }, func() { d.Write(d.Blocks(), nil) },
		d.Flush,
	}
}

func sameEvent(a, b api.Event) bool {
	return a.Kind == b.Kind && a.At == b.At && a.Head == b.Head && bytes.Equal(a.Body, b.Body)
}

func checkTrace(t *testing.T, what string, d *Disk, want []api.Event) {
	t.Helper()
	got := d.Trace()
	if len(got) != len(want) {
		t.Fatalf("%s: %d events, want %d", what, len(got), len(want))
	}
	for i, e := range want {
		if !sameEvent(got[i], e) {
			t.Errorf("%s: event %d is %v, want %v", what, i, got[i], e)
		}
	}
}

// caught answers what f panics with.
func caught(f func()) (why any) {
	defer func() { why = recover() }()
	f()
	return nil
}

// 6.1: numbers of blocks and of bytes, held to their bounds.
func TestNewHoldsToBounds(t *testing.T) {
	numbers := []int{math.MinInt, -100001, -1, 0, 1, 2, 7, 59999, 60000, 60001, 65536, 99999, 100000, 100001, 1 << 32, math.MaxInt}
	for _, blocks := range numbers {
		for _, size := range numbers {
			d := New(blocks, size)
			wantBlocks, wantSize := min(max(blocks, 0), 100000), min(max(size, 0), 60000)
			if d.Blocks() != wantBlocks || d.Size() != wantSize {
				t.Errorf("New(%d, %d): %d blocks of %d bytes", blocks, size, d.Blocks(), d.Size())
			}
		}
	}
}

// 6.1: the chapter's example; all blocks of new devices are 0, to the last one.
func TestNewIsNought(t *testing.T) {
	if got := New(1, 2).Read(0); !bytes.Equal(got, []byte{0, 0}) {
		t.Errorf("Read = %v", got)
	}
	for _, x := range [][2]int{{1, 1}, {3, 14}, {100000, 3}, {100000, 60000}, {5, 0}} {
		d := New(x[0], x[1])
		for _, at := range []int{0, x[0] / 2, x[0] - 1} {
			want := make([]byte, x[1])
			if got := d.Read(at); !bytes.Equal(got, want) {
				t.Errorf("%v: Read(%d) is not nought", x, at)
			}
			if got := d.Stable(at); !bytes.Equal(got, want) {
				t.Errorf("%v: Stable(%d) is not nought", x, at)
			}
		}
	}
}

// 6.1: what was handed in is fitted to the size, whatever its length.
func TestWriteFits(t *testing.T) {
	long := bytes.Repeat([]byte{3, 1, 4, 1, 5, 9}, 11000)
	for _, size := range []int{0, 1, 2, 11, 12, 13, 64, 60000} {
		for _, n := range []int{0, 1, 2, 11, 12, 13, 63, 64, 65, 59999, 60000, 60001, len(long)} {
			d := New(2, size)
			d.Write(1, bytes.Repeat([]byte{255}, size))
			d.Write(1, long[:n])
			want := full(long[:n], size)
			if got := d.Read(1); !bytes.Equal(got, want) {
				t.Errorf("size %d, %d bytes: Read", size, n)
			}
			if got := d.Stable(1); !bytes.Equal(got, make([]byte, size)) {
				t.Errorf("size %d, %d bytes: Stable ahead of Flush", size, n)
			}
			d.Flush()
			if got := d.Stable(1); !bytes.Equal(got, want) {
				t.Errorf("size %d, %d bytes: Stable", size, n)
			}
			if got := d.Read(0); !bytes.Equal(got, make([]byte, size)) {
				t.Errorf("size %d, %d bytes: the block beside it", size, n)
			}
		}
	}
}

// 6.1: Read tells the last write, Stable the last one that was flushed.
func TestReadAndStable(t *testing.T) {
	d := New(3, 1)
	check := func(what string, at int, read, stable byte) {
		t.Helper()
		if got := d.Read(at); !bytes.Equal(got, []byte{read}) {
			t.Errorf("%s: Read(%d) = %v, want %d", what, at, got, read)
		}
		if got := d.Stable(at); !bytes.Equal(got, []byte{stable}) {
			t.Errorf("%s: Stable(%d) = %v, want %d", what, at, got, stable)
		}
	}
	d.Write(0, []byte{1})
	d.Write(2, []byte{2})
	d.Write(0, []byte{3})
	check("written", 0, 3, 0)
	check("written", 1, 0, 0)
	check("written", 2, 2, 0)
	d.Flush()
	check("flushed", 0, 3, 3)
	check("flushed", 2, 2, 2)
	d.Write(0, []byte{4})
	check("written again", 0, 4, 3)
	check("written again", 2, 2, 2)
	d.Flush()
	d.Flush()
	check("flushed twice", 0, 4, 4)
	d.Write(2, nil)
	check("noughts", 2, 0, 2)
	d.Flush()
	check("noughts flushed", 2, 0, 0)
}

// 6.1: at places that are none nothing is read or written.
func TestPlacesThatAreNone(t *testing.T) {
	for _, n := range []int{0, 1, 3, 100000} {
		d := New(n, 2)
		for _, at := range noPlaces(n) {
			d.Write(at, []byte{7, 7})
			if got := d.Read(at); len(got) != 0 {
				t.Errorf("%d blocks: Read(%d) = %v", n, at, got)
			}
			d.Flush()
			if got := d.Stable(at); len(got) != 0 {
				t.Errorf("%d blocks: Stable(%d) = %v", n, at, got)
			}
		}
		for at := range min(n, 3) {
			if got := d.Read(at); !bytes.Equal(got, []byte{0, 0}) {
				t.Errorf("%d blocks: Read(%d) = %v behind writes elsewhere", n, at, got)
			}
		}
	}
}

// 6.2: as many calls as Cut says have power, and none behind them; which they are is all the same.
func TestCutCountsEachCall(t *testing.T) {
	for which := range counted(New(2, 3)) {
		for _, after := range []int{0, 1, 2, 3, 17} {
			d := New(2, 3)
			call := counted(d)[which]
			d.Cut(after)
			for i := range after {
				if !Try(call) {
					t.Fatalf("call %d: no power at %d of %d", which, i, after)
				}
			}
			for _, other := range counted(d) {
				if Try(other) {
					t.Errorf("call %d: power behind %d", which, after)
				}
			}
			if Try(call) || len(d.Trace()) != after {
				t.Errorf("call %d: %d events, want %d", which, len(d.Trace()), after)
			}
		}
	}
}

// 6.2: what is not one of the three is not counted, and needs no power.
func TestOtherCallsAreNotCounted(t *testing.T) {
	d := New(2, 1)
	d.Write(1, []byte{8})
	d.Flush()
	d.Write(1, []byte{9})
	events := 3
	ask := func() {
		for range 20 {
			if d.Stable(1)[0] != 8 || d.Stable(2) != nil || d.Blocks() != 2 || d.Size() != 1 || len(d.Trace()) != events {
				t.Error("asked")
			}
		}
	}
	d.Cut(1)
	if !Try(ask) {
		t.Error("power was needed ahead")
	}
	if !Try(func() { d.Read(0) }) {
		t.Error("counted")
	}
	events++
	if Try(d.Flush) {
		t.Error("power behind 1")
	}
	if !Try(ask) {
		t.Error("power was needed behind")
	}
}

// 6.2: without power nothing is done.
func TestNothingIsDoneWithoutPower(t *testing.T) {
	d := New(2, 1)
	d.Write(0, []byte{1})
	d.Flush()
	d.Write(0, []byte{2})
	d.Cut(0)
	for i, call := range counted(d) {
		if Try(call) {
			t.Errorf("call %d had power", i)
		}
	}
	if got := d.Stable(0); got[0] != 1 {
		t.Errorf("Stable = %v", got)
	}
	if n := len(d.Trace()); n != 3 {
		t.Errorf("%d events", n)
	}
	d.Crash([]int{0, 2, 2})
	if got := d.Read(0); got[0] != 2 {
		t.Errorf("Read = %v behind Crash", got)
	}
}

// 6.2: a panic goes through a call that has no Try, and the calls behind it within one f are not done.
func TestPowerGoesByPanic(t *testing.T) {
	d := New(1, 1)
	d.Cut(1)
	steps := 0
	went := !Try(func() {
		d.Write(0, []byte{1})
		steps++
		d.Flush()
		steps++
	})
	if !went || steps != 1 {
		t.Errorf("went: %t, steps: %d", went, steps)
	}
	for i, call := range counted(d) {
		if caught(call) == nil {
			t.Errorf("call %d did not panic", i)
		}
	}
}

// 6.2: the last Cut counts, until the power is gone; numbers below 0 take it away.
func TestLastCutCounts(t *testing.T) {
	for _, never := range []int{-1, -2, -7, math.MinInt} {
		d := New(1, 1)
		d.Cut(1)
		d.Cut(never)
		for i := range 50 {
			if !Try(d.Flush) {
				t.Fatalf("Cut(%d): no power at %d", never, i)
			}
		}
	}
	for _, cuts := range [][]int{{5, 1}, {1, 5, 1}, {-1, 1}, {math.MaxInt, 1}, {2, 3, -4, 1}} {
		d := New(1, 1)
		for _, after := range cuts {
			d.Cut(after)
		}
		if !Try(d.Flush) || Try(d.Flush) {
			t.Errorf("Cuts %v: not 1", cuts)
		}
	}
	d := New(1, 1)
	d.Cut(1)
	d.Cut(5)
	for i := range 5 {
		if !Try(d.Flush) {
			t.Fatalf("no power at %d of 5", i)
		}
	}
	if Try(d.Flush) {
		t.Error("power behind 5")
	}
	d = New(1, 1)
	d.Cut(math.MaxInt)
	for range 50 {
		if !Try(d.Flush) {
			t.Fatal("no power though there are many calls left")
		}
	}
	d.Cut(3)
	d.Flush()
	d.Flush()
	d.Cut(2)
	if !Try(d.Flush) || !Try(d.Flush) || Try(d.Flush) {
		t.Error("a Cut does not count from where it was called")
	}
}

// 6.2: Crash alone brings gone power back: no Cut does, whether a call has met it or not.
func TestCutBringsNoPowerBack(t *testing.T) {
	for _, after := range []int{0, 1, 3} {
		for _, met := range []bool{false, true} {
			for _, again := range []int{-1, math.MinInt, 0, 1, 100, math.MaxInt} {
				d := New(1, 1)
				d.Cut(after)
				for range after {
					d.Flush()
				}
				if met && Try(d.Flush) {
					t.Error("power")
				}
				d.Cut(again)
				for i, call := range counted(d) {
					if Try(call) {
						t.Errorf("Cut(%d), met: %t, Cut(%d): call %d has power", after, met, again, i)
					}
				}
				d.Crash(nil)
				for range 20 {
					if !Try(d.Flush) {
						t.Errorf("Cut(%d), met: %t, Cut(%d): no power behind Crash", after, met, again)
					}
				}
			}
		}
	}
}

// 6.2: behind a Crash no Cut holds, and a new one does.
func TestCrashEndsCut(t *testing.T) {
	d := New(1, 1)
	d.Cut(2)
	d.Flush()
	d.Crash(nil)
	for range 10 {
		if !Try(d.Flush) {
			t.Fatal("Cut holds behind Crash")
		}
	}
	d.Cut(0)
	d.Crash(nil)
	if !Try(d.Flush) {
		t.Error("Cut(0) holds behind Crash")
	}
	d.Cut(1)
	if !Try(d.Flush) || Try(d.Flush) {
		t.Error("a new Cut does not hold")
	}
	d.Crash(nil)
	d.Crash(nil)
	if !Try(d.Flush) {
		t.Error("two Crashes")
	}
}

// 6.2: each choice, modulo 3, of one write on what was flushed; of too few it is 0.
func TestChoices(t *testing.T) {
	wants := [][]byte{{1, 2, 0}, {9, 8, 7}, {1 ^ 165, 2 ^ 165, 165}}
	check := func(choices []int, want []byte) {
		t.Helper()
		d := New(2, 3)
		d.Write(1, []byte{9, 8, 7})
		d.Flush()
		d.Write(1, []byte{1, 2})
		d.Crash(choices)
		if got := d.Read(1); !bytes.Equal(got, want) {
			t.Errorf("choices %v: Read = %v, want %v", choices, got, want)
		}
		if got := d.Stable(1); !bytes.Equal(got, want) {
			t.Errorf("choices %v: Stable = %v, want %v", choices, got, want)
		}
		if got := d.Read(0); !bytes.Equal(got, []byte{0, 0, 0}) {
			t.Errorf("choices %v: the other block is %v", choices, got)
		}
	}
	check(nil, wants[0])
	check([]int{}, wants[0])
	for choice := -30; choice <= 30; choice++ {
		check([]int{choice}, wants[(choice+300)%3])
		check([]int{choice, 1, 2, 0}, wants[(choice+300)%3])
	}
	// 2^63 - 1 is 7 modulo 9, so 1 modulo 3; -2^63 is 1, too.
	check([]int{math.MaxInt}, wants[1])
	check([]int{math.MaxInt - 1}, wants[0])
	check([]int{math.MinInt}, wants[1])
	check([]int{math.MinInt + 1}, wants[2])
}

// 6.2: writes are settled in the order in which they were done, each on what was there.
func TestChoicesGoInOrder(t *testing.T) {
	for a := range 3 {
		for b := range 3 {
			for c := range 3 {
				d := New(2, 1)
				d.Write(0, []byte{9})
				d.Flush()
				d.Write(0, []byte{1})
				d.Write(1, []byte{2})
				d.Write(0, []byte{3})
				d.Crash([]int{a, b, c})
				first := []byte{1, 9, 1 ^ 165}[a]
				want0, want1 := []byte{3, first, 3 ^ 165}[c], []byte{2, 0, 2 ^ 165}[b]
				if got := d.Read(0)[0]; got != want0 || d.Stable(0)[0] != want0 {
					t.Errorf("choices %d %d %d: block 0 is %d, want %d", a, b, c, got, want0)
				}
				if got := d.Read(1)[0]; got != want1 || d.Stable(1)[0] != want1 {
					t.Errorf("choices %d %d %d: block 1 is %d, want %d", a, b, c, got, want1)
				}
			}
		}
	}
}

// 6.2: writes at places that are none, reads, and writes that had no power have no choice.
func TestWhatHasNoChoice(t *testing.T) {
	d := New(2, 1)
	for _, at := range noPlaces(2) {
		d.Write(at, []byte{5})
	}
	d.Write(0, []byte{1})
	d.Read(0)
	d.Write(2, []byte{5})
	d.Cut(1)
	d.Write(1, []byte{2})
	Try(func() { d.Write(0, []byte{6}) })
	d.Crash([]int{1, 2, 0, 0})
	if a, b := d.Read(0), d.Read(1); a[0] != 0 || b[0] != 2^165 {
		t.Errorf("blocks %v, %v", a, b)
	}
}

// 6.2: behind a Crash nothing is not flushed: the next one's choices are of later writes.
func TestNothingWaitsBehindCrash(t *testing.T) {
	for _, first := range [][]int{nil, {1}, {2}, {0, 1, 2}} {
		d := New(1, 1)
		d.Write(0, []byte{1})
		d.Crash(first)
		was := d.Read(0)
		d.Crash([]int{2, 2, 2})
		if got := d.Read(0); !bytes.Equal(got, was) {
			t.Errorf("first %v: %v, was %v", first, got, was)
		}
		d.Write(0, []byte{4})
		d.Crash([]int{1})
		if got := d.Read(0); !bytes.Equal(got, was) {
			t.Errorf("first %v: %v behind a lost write, was %v", first, got, was)
		}
		d.Write(0, []byte{4})
		d.Crash([]int{2, 1, 1})
		if got := d.Read(0); got[0] != 4^165 {
			t.Errorf("first %v: %v behind a garbled write", first, got)
		}
	}
}

// 6.2: all bytes of a garbled block are garbled, those behind what was handed in, too.
func TestGarbledIsWhole(t *testing.T) {
	for _, size := range []int{0, 1, 12, 60000} {
		d := New(1, size)
		d.Write(0, []byte{165})
		d.Crash([]int{2})
		want := bytes.Repeat([]byte{165}, size)
		if size > 0 {
			want[0] = 0
		}
		if got := d.Read(0); !bytes.Equal(got, want) {
			t.Errorf("size %d: garbled", size)
		}
	}
}

// 6.2: Try of what ends, of what panics for another cause, and of nothing.
func TestTry(t *testing.T) {
	was := 0
	if !Try(func() { was = 5 }) || was != 5 {
		t.Error("what ends")
	}
	if !Try(nil) {
		t.Error("nothing")
	}
	own := errors.New("the power went")
	for i, why := range []any{"other", 7, own, api.ErrPower, api.OK, struct{}{}, [1]int{3}, true} {
		if got := caught(func() { Try(func() { panic(why) }) }); got != why {
			t.Errorf("panic %d: %v", i, got)
		}
	}
	// These can't be held against each other by ==.
	if got, ok := caught(func() { Try(func() { panic([]int{4}) }) }).([]int); !ok || !slices.Equal(got, []int{4}) {
		t.Errorf("list: %v", got)
	}
	if got := caught(func() { Try(func() { panic(func() {}) }) }); got == nil {
		t.Error("function")
	}
	var list []int
	if got, ok := caught(func() { Try(func() { list[len(list)] = 1 }) }).(runtime.Error); !ok {
		t.Errorf("fault of the program's: %v", got)
	}
	if got, ok := caught(func() { Try(func() { panic(nil) }) }).(*runtime.PanicNilError); !ok {
		t.Errorf("nil: %v", got)
	}
}

// 6.2: Try within Try, of several devices, and deferred calls.
func TestTryWithin(t *testing.T) {
	a, b := New(1, 1), New(1, 1)
	a.Cut(0)
	inner := true
	if !Try(func() { inner = Try(a.Flush); b.Flush() }) || inner {
		t.Error("within")
	}
	if Try(func() { b.Flush(); a.Flush() }) {
		t.Error("another device's power")
	}
	ran := false
	if Try(func() {
		defer func() { ran = true }()
		a.Flush()
	}) || !ran {
		t.Error("deferred")
	}
	if got := caught(func() {
		Try(func() {
			defer func() { panic("behind it") }()
			a.Flush()
		})
	}); got != "behind it" {
		t.Errorf("panic behind the power's: %v", got)
	}
	if Try(func() {
		defer func() { panic(recover()) }()
		a.Flush()
	}) {
		t.Error("handed on")
	}
}

// 6.3: events of all kinds, in order.
func TestTrace(t *testing.T) {
	d := New(2, 14)
	checkTrace(t, "new", d, nil)
	text := []byte("abcdefghijklmnop")
	d.Write(1, text)
	d.Read(1)
	d.Read(0)
	d.Flush()
	d.Write(0, []byte("xy"))
	d.Read(0)
	d.Write(math.MaxInt, text)
	d.Write(-5, nil)
	d.Read(math.MinInt)
	d.Read(2)
	d.Crash([]int{2})
	d.Read(0)
	d.Crash(nil)
	garbledXY := bytes.Repeat([]byte{165}, 14)
	garbledXY[0], garbledXY[1] = 'x'^165, 'y'^165
	checkTrace(t, "all kinds", d, []api.Event{
		{Kind: 2, At: 1, Head: headOf(text), Body: text[:14]},
		{Kind: 1, At: 1, Head: headOf(text)},
		{Kind: 1, At: 0},
		{Kind: 3},
		{Kind: 2, At: 0, Head: headOf([]byte("xy")), Body: full([]byte("xy"), 14)},
		{Kind: 1, At: 0, Head: headOf([]byte("xy"))},
		{Kind: 2, At: math.MaxInt, Head: headOf(text), Body: text[:14]},
		{Kind: 2, At: -5, Body: make([]byte, 14)},
		{Kind: 1, At: math.MinInt},
		{Kind: 1, At: 2},
		{Kind: 4},
		{Kind: 1, At: 0, Head: headOf(garbledXY)},
		{Kind: 4},
	})
}

// 6.3: Heads and Bodies at sizes about 12, of more and of fewer bytes than the size.
func TestTraceFits(t *testing.T) {
	text := []byte("abcdefghijklmnopqrstuvwxyz")
	for _, size := range []int{0, 1, 11, 12, 13, 20} {
		for _, n := range []int{0, 1, 11, 12, 13, 20, 26} {
			for _, at := range []int{0, 1, -1} {
				d := New(1, size)
				d.Write(at, text[:n])
				d.Read(at)
				body := full(text[:n], size)
				read := api.Event{Kind: api.EvRead, At: at, Head: headOf(body)}
				if at != 0 {
					read.Head = [12]byte{}
				}
				checkTrace(t, "fits", d, []api.Event{{Kind: api.EvWrite, At: at, Head: headOf(body), Body: body}, read})
				if got := d.Trace()[0].Body; len(got) != size {
					t.Errorf("size %d, %d bytes: a Body of %d", size, n, len(got))
				}
			}
		}
	}
}

// 6.3: what panicked is not told, nor what is not counted; a Crash is.
func TestTraceWithoutPower(t *testing.T) {
	d := New(1, 1)
	d.Write(0, []byte{1})
	d.Cut(1)
	d.Flush()
	for _, call := range counted(d) {
		Try(call)
	}
	d.Cut(3)
	d.Stable(0)
	d.Trace()
	d.Crash([]int{1})
	d.Read(0)
	checkTrace(t, "without power", d, []api.Event{{Kind: 2, Head: [12]byte{1}, Body: []byte{1}}, {Kind: 3}, {Kind: 4}, {Kind: 1, Head: [12]byte{1}}})
}

// 6.3: the kinds are the numbers that the chapter tells.
func TestKinds(t *testing.T) {
	if api.EvRead != 1 || api.EvWrite != 2 || api.EvFlush != 3 || api.EvCrash != 4 {
		t.Error("kinds")
	}
}

// 6.4, W2: what was flushed stays, wherever the power goes and whatever is chosen; what was not is one of the three.
func TestFlushedStays(t *testing.T) {
	for after := 0; after <= 8; after++ {
		for choices := range 27 {
			list := []int{choices % 3, choices / 3 % 3, choices / 9}
			d := New(3, 2)
			steps := []func(){
				func() { d.Write(0, []byte{1, 1}) }, func() { d.Write(1, []byte{2, 2}) }, d.Flush, func() { d.Write(0, []byte{3, 3}) }, func() { d.Read(1) }, func() { d.Write(2, []byte{4, 4}) }, d.Flush,
			}
			d.Cut(after)
			done := 0
			went := !Try(func() {
				for _, step := range steps {
					step()
					done++
				}
			})
			if went != (after < len(steps)) || done != min(after, len(steps)) {
				t.Fatalf("Cut(%d): %d steps, went: %t", after, done, went)
			}
			// What was flushed ahead, and what the write that waits may make of it.
			old, waits := [3]byte{}, [3]byte{}
			switch {
			case done == 7:
				old = [3]byte{3, 2, 4}
			case done >= 3:
				old = [3]byte{1, 2, 0}
				if done >= 4 {
					waits[0] = 3
				}
				if done >= 6 {
					waits[2] = 4
				}
			default:
				waits = [3]byte{min(byte(done), 1), byte(done) / 2 * 2, 0}
			}
			d.Crash(list)
			next := 0
			for at := range 3 {
				want := old[at]
				if waits[at] != 0 {
					want = []byte{waits[at], old[at], waits[at] ^ 165}[list[next]]
					next++
				}
				if got := d.Read(at); !bytes.Equal(got, []byte{want, want}) || !bytes.Equal(d.Stable(at), got) {
					t.Errorf("Cut(%d), choices %v: block %d is %v, want %d", after, list, at, got, want)
				}
			}
		}
	}
}

// model is the chapter told another way: what was flushed, and all writes behind it.
type model struct {
	blocks, size int
	flushed      map[int][]byte
	log          []write
	events       []api.Event
	cut, gone    bool
	left         int
}

func (m *model) some(at int) bool { return 0 <= at && at < m.blocks }

func (m *model) stable(at int) []byte {
	if !m.some(at) {
		return nil
	}
	return full(m.flushed[at], m.size)
}

func (m *model) read(at int) []byte {
	for i := len(m.log) - 1; i >= 0; i-- {
		if m.log[i].at == at {
			return m.log[i].body
		}
	}
	return m.stable(at)
}

// power tells if the next of the three calls has power, and counts it.
func (m *model) power() bool {
	if m.gone {
		return false
	}
	if m.cut {
		m.left--
		m.gone = m.left == 0
	}
	return true
}

func (m *model) crash(choices []int) {
	for i, w := range m.log {
		choice := 0
		if i < len(choices) {
			choice = choices[i]
		}
		switch ((choice % 3) + 3) % 3 {
		case 0:
			m.flushed[w.at] = w.body
		case 2:
			b := full(w.body, m.size)
			for j := range b {
				b[j] ^= 0xa5
			}
			m.flushed[w.at] = b
		}
	}
	m.log, m.cut, m.gone = nil, false, false
	m.events = append(m.events, api.Event{Kind: api.EvCrash})
}

// step does something on both, and tells what was wrong.
func (m *model) step(t *testing.T, d *Disk, r *rand.Rand) {
	at := r.Intn(m.blocks+3) - 1
	switch r.Intn(12) {
	case 0, 1, 2, 3:
		b := make([]byte, r.Intn(m.size+4))
		r.Read(b)
		body := full(b[:min(len(b), m.size)], m.size)
		had := Try(func() { d.Write(at, b) })
		if want := m.power(); had != want {
			t.Fatalf("Write: power %t, want %t", had, want)
		}
		if had {
			m.events = append(m.events, api.Event{Kind: api.EvWrite, At: at, Head: headOf(body), Body: body})
			if m.some(at) {
				m.log = append(m.log, write{at, body})
			}
		}
	case 4, 5, 6:
		var got []byte
		had := Try(func() { got = d.Read(at) })
		if want := m.power(); had != want {
			t.Fatalf("Read: power %t, want %t", had, want)
		}
		if had {
			want := m.read(at)
			if !bytes.Equal(got, want) {
				t.Fatalf("Read(%d) = %v, want %v", at, got, want)
			}
			m.events = append(m.events, api.Event{Kind: api.EvRead, At: at, Head: headOf(want)})
		}
	case 7:
		had := Try(d.Flush)
		if want := m.power(); had != want {
			t.Fatalf("Flush: power %t, want %t", had, want)
		}
		if had {
			m.events = append(m.events, api.Event{Kind: api.EvFlush})
			for _, w := range m.log {
				m.flushed[w.at] = w.body
			}
			m.log = nil
		}
	case 8:
		after := r.Intn(12) - 2
		d.Cut(after)
		if !m.gone {
			m.cut, m.left, m.gone = after >= 0, after, after == 0
		}
	case 9, 10:
		if got := d.Stable(at); !bytes.Equal(got, m.stable(at)) {
			t.Fatalf("Stable(%d) = %v, want %v", at, got, m.stable(at))
		}
	case 11:
		choices := make([]int, r.Intn(8))
		for i := range choices {
			choices[i] = r.Intn(20) - 10
		}
		d.Crash(choices)
		m.crash(choices)
	}
}

// 6.1 to 6.4: long runs of all calls, held to the model.
func TestRunsAsTheModel(t *testing.T) {
	r := rand.New(rand.NewSource(6))
	for range 150 {
		m := &model{blocks: r.Intn(6), size: r.Intn(20), flushed: map[int][]byte{}}
		d := New(m.blocks, m.size)
		for range 300 {
			m.step(t, d, r)
		}
		checkTrace(t, "run", d, m.events)
		d.Crash([]int{1, 2})
		m.crash([]int{1, 2})
		for at := -1; at <= m.blocks; at++ {
			if got := d.Read(at); !bytes.Equal(got, m.stable(at)) {
				t.Fatalf("at the end: Read(%d) = %v, want %v", at, got, m.stable(at))
			}
		}
	}
}

// 6.5: wrong inputs, on devices of all edges: no call panics while there is power, and those that need none never do.
func TestNoCallPanics(t *testing.T) {
	numbers := []int{math.MinInt, math.MinInt + 1, -1, 0, 1, 2, 3, 59999, 60000, 99999, 100000, 100001, math.MaxInt - 1, math.MaxInt}
	for _, x := range [][2]int{{0, 0}, {0, 5}, {5, 0}, {1, 1}, {2, 13}, {math.MaxInt, 3}, {math.MinInt, math.MinInt}, {2, math.MaxInt}} {
		d := New(x[0], x[1])
		for _, n := range numbers {
			for _, b := range [][]byte{nil, {}, {1}, make([]byte, 20), make([]byte, 60001)} {
				if d.Size() > 1000 && len(b) > 20 {
					continue
				}
				d.Write(n, b)
			}
			d.Read(n)
			d.Stable(n)
			d.Cut(n)
			d.Crash([]int{n, n, n})
			d.Crash(nil)
			d.Flush()
		}
		d.Cut(0)
		for _, n := range numbers {
			d.Cut(n)
			d.Stable(n)
		}
		d.Trace()
		d.Blocks()
		d.Size()
		d.Crash(numbers)
	}
	Try(nil)
}

// Rule 3: what is handed in is not changed, nor kept; what is answered is new memory.
func TestNothingHandedInIsChangedOrShared(t *testing.T) {
	d := New(2, 4)
	room := []byte{1, 2, 3, 4, 5, 6, 7, 8}
	d.Write(0, room[:2])
	d.Write(1, room[:6])
	if !slices.Equal(room, []byte{1, 2, 3, 4, 5, 6, 7, 8}) {
		t.Errorf("handed in: %v", room)
	}
	for i := range room {
		room[i] = 99
	}
	want := [][]byte{{1, 2, 0, 0}, {1, 2, 3, 4}}
	checkLent(t, "Read", d.Read, want)
	checkLent(t, "Trace", func(at int) []byte { return d.Trace()[at].Body }, want)
	clear(d.Trace())
	checkLent(t, "Trace", func(at int) []byte { return d.Trace()[at].Body }, want)
	d.Flush()
	checkLent(t, "Stable", d.Stable, want)
	d.Write(0, []byte{7})
	choices := []int{-1, 5, 7}
	d.Crash(choices[:1])
	if !slices.Equal(choices, []int{-1, 5, 7}) {
		t.Errorf("choices: %v", choices)
	}
	if body := d.Trace()[len(d.Trace())-2].Body; !bytes.Equal(body, []byte{7, 0, 0, 0}) {
		t.Errorf("the Body of a garbled write is %v", body)
	}
}

// checkLent asks twice for each block, and spoils what is answered: the second answer must not tell that.
func checkLent(t *testing.T, what string, ask func(at int) []byte, want [][]byte) {
	t.Helper()
	for range 2 {
		for at := range want {
			got := ask(at)
			if !bytes.Equal(got, want[at]) {
				t.Errorf("%s(%d) = %v, want %v", what, at, got, want[at])
			}
			spoil(got)
		}
	}
}

// spoil changes all bytes of b, and its spare room.
func spoil(b []byte) {
	for i := range b[:cap(b)] {
		b[:cap(b)][i] ^= 255
	}
}

// Limits: a device of the greatest numbers costs what is written on it.
func TestGreatDevice(t *testing.T) {
	d := New(math.MaxInt, math.MaxInt)
	for at := range d.Blocks() {
		d.Write(at, []byte{byte(at), byte(at >> 8), byte(at >> 16)})
	}
	d.Flush()
	for _, at := range []int{0, 1, 65535, 99999} {
		got := d.Stable(at)
		if len(got) != 60000 || got[0] != byte(at) || got[1] != byte(at>>8) || got[2] != byte(at>>16) || got[3] != 0 {
			t.Errorf("Stable(%d) of %d bytes begins %v", at, len(got), got[:4])
		}
	}
}
