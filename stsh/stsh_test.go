package stsh

import (
	"bytes"
	"encoding/binary"
	"maps"
	"math"
	"math/rand"
	"slices"
	"testing"

	"dumbwaiter/api"
)

const most = math.MaxInt32 // the greatest ID and Leaf

// model is what the sentence tells of a Stash, apart from the program.
type model struct {
	most, size int
	cells      map[int]api.Cell
}

func newModel(most, size int) *model {
	return &model{most: most, size: size, cells: map[int]api.Cell{}}
}

func (m *model) ids() []int {
	return slices.Sorted(maps.Keys(m.cells))
}

func (m *model) put(c api.Cell) bool {
	if c.ID < 1 || c.ID > math.MaxInt32 || c.Leaf < 0 || c.Leaf > math.MaxInt32 || len(c.Data) != m.size {
		return false
	}
	if _, there := m.cells[c.ID]; !there && len(m.cells) == m.most {
		return false
	}
	m.cells[c.ID] = copied(c)
	return true
}

func (m *model) take(id int) (api.Cell, bool) {
	c, ok := m.cells[id]
	delete(m.cells, id)
	return c, ok
}

// isTree tells if a tree may have so many leaves.
func isTree(leaves int) bool {
	for n := 1; n <= 65536; n *= 2 {
		if leaves == n {
			return true
		}
	}
	return false
}

// spot is the bucket at a level of the way to leaf, counted from the left of its level; false, if there is none.
func spot(leaves, leaf, level int) (int, bool) {
	if !isTree(leaves) || leaf < 0 || leaf >= leaves || level < 0 || level > 16 || leaves>>level == 0 {
		return 0, false
	}
	return leaf / (leaves >> level), true
}

func (m *model) evict(leaves, leaf, level, z int) []api.Cell {
	var l []api.Cell
	bucket, ok := spot(leaves, leaf, level)
	if !ok {
		return nil
	}
	for _, id := range m.ids() {
		own, ok := spot(leaves, m.cells[id].Leaf, level)
		if ok && own == bucket && len(l) < z {
			l = append(l, m.cells[id])
			delete(m.cells, id)
		}
	}
	return l
}

func (m *model) state() []byte {
	b := binary.LittleEndian.AppendUint32(nil, uint32(len(m.cells)))
	for _, id := range m.ids() {
		b = binary.LittleEndian.AppendUint32(b, uint32(id))
		b = binary.LittleEndian.AppendUint32(b, uint32(m.cells[id].Leaf))
		b = append(b, m.cells[id].Data...)
	}
	return append(b, make([]byte, 4+m.most*(8+m.size)-len(b))...)
}

// load takes up what b tells; false, if telling it again would not be b.
func (m *model) load(b []byte) bool {
	long := 8 + m.size
	if len(b) != 4+m.most*long || uint64(binary.LittleEndian.Uint32(b)) > uint64(m.most) {
		return false
	}
	other := newModel(m.most, m.size)
	for i := range int(binary.LittleEndian.Uint32(b)) {
		one := b[4+i*long:][:long]
		id, leaf := binary.LittleEndian.Uint32(one), binary.LittleEndian.Uint32(one[4:])
		if !other.put(cell(int(id), int(leaf), string(one[8:]))) {
			return false
		}
	}
	if !bytes.Equal(other.state(), b) {
		return false
	}
	m.cells = other.cells
	return true
}

// cell is a Cell with such Data.
func cell(id, leaf int, data string) api.Cell {
	return api.Cell{ID: id, Leaf: leaf, Data: []byte(data)}
}

// copied is a Cell as c, that shares nothing with it.
func copied(c api.Cell) api.Cell {
	return cell(c.ID, c.Leaf, string(c.Data))
}

func same(one, other api.Cell) bool {
	return one.ID == other.ID && one.Leaf == other.Leaf && bytes.Equal(one.Data, other.Data)
}

// fill writes over b and the spare room behind it.
func fill(b []byte) {
	b = b[:cap(b)]
	for i := range b {
		b[i] = 0xEE
	}
}

// holds tells if s holds what m does, by Len, IDs and State.
func holds(t *testing.T, what string, s *Stash, m *model) {
	t.Helper()
	if s.Len() != len(m.cells) || !slices.Equal(s.IDs(), m.ids()) || !bytes.Equal(s.State(), m.state()) {
		t.Fatalf("%s: %d of %d, %v not %v", what, s.Len(), len(m.cells), s.IDs(), m.ids())
	}
}

// made is a Stash and its model, into which the Cells went.
func made(t *testing.T, room, size int, cells ...api.Cell) (*Stash, *model) {
	t.Helper()
	s, m := New(room, size), newModel(room, size)
	for _, c := range cells {
		if !s.Put(c) || !m.put(c) {
			t.Fatalf("Put of %d", c.ID)
		}
	}
	holds(t, "made", s, m)
	return s, m
}

func putBoth(t *testing.T, s *Stash, m *model, c api.Cell) {
	t.Helper()
	if got, want := s.Put(c), m.put(c); got != want {
		t.Fatalf("Put(%d, %d, %d bytes): %t", c.ID, c.Leaf, len(c.Data), got)
	}
}

func takeBoth(t *testing.T, s *Stash, m *model, id int) {
	t.Helper()
	got, ok := s.Take(id)
	want, there := m.take(id)
	if ok != there || !same(got, want) {
		t.Fatalf("Take(%d): %v, %t", id, got, ok)
	}
}

func evictBoth(t *testing.T, s *Stash, m *model, leaves, leaf, level, z int) {
	t.Helper()
	got, want := s.Evict(leaves, leaf, level, z), m.evict(leaves, leaf, level, z)
	if !slices.EqualFunc(got, want, same) {
		t.Fatalf("Evict(%d, %d, %d, %d): %v, not %v", leaves, leaf, level, z, got, want)
	}
}

func loadBoth(t *testing.T, s *Stash, m *model, b []byte) bool {
	t.Helper()
	got, want := s.Load(b), m.load(b)
	if got != want {
		t.Fatalf("Load of %d bytes: %t", len(b), got)
	}
	return got
}

// 15.1: a new Stash is empty.
func TestNewIsEmpty(t *testing.T) {
	s, m := made(t, 4, 3)
	if s.Len() != 0 || len(s.IDs()) != 0 || !bytes.Equal(s.State(), make([]byte, 4+4*11)) {
		t.Error(s.Len(), s.IDs())
	}
	takeBoth(t, s, m, 1)
	evictBoth(t, s, m, 4, 0, 0, 9)
	holds(t, "asked", s, m)
}

// 15.1: most is held to 0 to 10,000.
func TestMostIsHeld(t *testing.T) {
	for _, x := range [][2]int{{math.MinInt, 0}, {-1, 0}, {0, 0}, {1, 1}, {9999, 9999}, {10000, 10000}, {10001, 10000}, {math.MaxInt, 10000}} {
		s, m := New(x[0], 0), newModel(x[1], 0)
		for id := 1; id <= x[1]; id++ {
			putBoth(t, s, m, cell(id, id%7, ""))
		}
		holds(t, "full", s, m)
		if s.Put(cell(x[1]+1, 0, "")) {
			t.Errorf("most %d: one more than %d", x[0], x[1])
		}
		holds(t, "one more", s, m)
	}
}

// 15.1: size is held to 0 to 60,000.
func TestSizeIsHeld(t *testing.T) {
	for _, x := range [][2]int{{math.MinInt, 0}, {-1, 0}, {0, 0}, {1, 1}, {59999, 59999}, {60000, 60000}, {60001, 60000}, {math.MaxInt, 60000}} {
		s, m := New(2, x[0]), newModel(2, x[1])
		for _, size := range []int{x[1] - 1, x[1], x[1] + 1} {
			putBoth(t, s, m, cell(max(size, 0)+1, 1, string(bytes.Repeat([]byte{7}, max(size, 0)))))
		}
		holds(t, "Put", s, m)
		if s.Len() != 1 {
			t.Errorf("size %d: %d of them", x[0], s.Len())
		}
		if !s.Load(m.state()) {
			t.Errorf("size %d: Load", x[0])
		}
		holds(t, "Load", s, m)
	}
}

// 15.1: both at their greatest: State has 10,000 times 60,008 bytes, and four.
func TestGreatestState(t *testing.T) {
	if long := len(New(math.MaxInt, math.MaxInt).State()); long != 4+10000*60008 {
		t.Error(long)
	}
}

// 15.1: Put(c): c is there, in place of one of its ID, even where there are most.
func TestPut(t *testing.T) {
	s, m := made(t, 3, 2, cell(5, 1, "ab"), cell(2, 0, "cd"), cell(9, 3, "ef"))
	putBoth(t, s, m, cell(7, 0, "gh"))
	holds(t, "full", s, m)
	for i, id := range []int{2, 5, 9, 5} {
		if !s.Put(cell(id, 10+i, "x"+string(rune('a'+i)))) {
			t.Error(id)
		}
		m.put(cell(id, 10+i, "x"+string(rune('a'+i))))
		holds(t, "in place", s, m)
	}
	takeBoth(t, s, m, 5)
	putBoth(t, s, m, cell(7, 0, "gh"))
	putBoth(t, s, m, cell(5, 0, "gh"))
	holds(t, "full again", s, m)
	if !slices.Equal(s.IDs(), []int{2, 7, 9}) {
		t.Error(s.IDs())
	}
}

// 15.1: the least and the greatest ID and Leaf are Cells.
func TestPutAtTheBounds(t *testing.T) {
	s, m := made(t, 4, 1, cell(most, most, "a"), cell(1, 0, "b"), cell(most-1, 1, "c"), cell(2, most, "d"))
	for _, id := range []int{1, 2, most - 1, most} {
		takeBoth(t, s, m, id)
	}
	holds(t, "taken", s, m)
}

// 15.1: Put is false of what buck would not tell, and what is there stays, that of the same ID too.
func TestPutRefuses(t *testing.T) {
	wrong := []api.Cell{
		{}, cell(0, 0, "ab"), cell(-1, 0, "ab"), cell(math.MinInt, 0, "ab"), cell(most+1, 0, "ab"), cell(math.MaxInt, 0, "ab"),
		cell(1<<32+2, 0, "ab"), cell(2, -1, "ab"), cell(2, math.MinInt, "ab"), cell(2, most+1, "ab"), cell(2, math.MaxInt, "ab"), cell(2, 1<<32, "ab"),
		cell(2, 0, ""), {ID: 2}, cell(2, 0, "a"), cell(2, 0, "abc"), {ID: 2, Data: make([]byte, 1, 2)}, cell(3, 0, "a"),
	}
	for _, cells := range [][]api.Cell{nil, {cell(2, 1, "xy")}, {cell(2, 1, "xy"), cell(3, 1, "zz"), cell(4, 0, "uv")}} {
		s, m := made(t, 3, 2, cells...)
		for _, c := range wrong {
			if s.Put(c) {
				t.Error(c.ID, c.Leaf, c.Data)
			}
			holds(t, "wrong", s, m)
		}
	}
}

// 15.1: Take(id): it is there no more; false, and nothing beside it, of one that is not.
func TestTake(t *testing.T) {
	s, m := made(t, 5, 2, cell(5, 1, "ab"), cell(2, 7, "cd"), cell(9, 3, "ef"), cell(4, 3, "gh"))
	for _, id := range []int{0, 1, 3, 6, 10, -5, most, math.MinInt, math.MaxInt, 1<<32 + 5} {
		if c, ok := s.Take(id); c.ID != 0 || c.Leaf != 0 || len(c.Data) != 0 || ok {
			t.Error(id, c, ok)
		}
		holds(t, "none", s, m)
	}
	for _, id := range []int{5, 5, 9, 2, 4, 4} {
		takeBoth(t, s, m, id)
		holds(t, "Take", s, m)
	}
	if c, ok := New(1, 0).Take(0); c.ID != 0 || ok {
		t.Error(c, ok)
	}
}

// crowd are Cells of each of leaves, several of some, and of leaves behind them.
func crowd(leaves int) []api.Cell {
	var l []api.Cell
	for i := range 3*leaves + 6 {
		l = append(l, cell(1+i*37%211, (i*5+i/leaves)%(leaves+3), string(rune('a'+i%26))))
	}
	return l
}

// 15.1: Evict: of all small trees each leaf, level and z, those beside them too.
func TestEvict(t *testing.T) {
	for _, leaves := range []int{1, 2, 3, 4, 6, 8, 16} {
		cells := crowd(leaves)
		for leaf := -2; leaf <= leaves+2; leaf++ {
			for level := -2; level <= 6; level++ {
				for _, z := range []int{math.MinInt, -1, 0, 1, 2, 3, 4, 5, 16, 17, 60, math.MaxInt} {
					s, m := made(t, 100, 1, cells...)
					evictBoth(t, s, m, leaves, leaf, level, z)
					holds(t, "Evict", s, m)
				}
			}
		}
	}
}

// 15.1: those of the least IDs are taken, whatever way round they were put, and where several levels would have them.
func TestEvictTakesTheLeastIDs(t *testing.T) {
	s, _ := made(t, 9, 1, cell(7, 0, "g"), cell(1, 3, "a"), cell(4, 0, "d"), cell(3, 2, "c"), cell(2, 1, "b"), cell(5, 3, "e"), cell(6, 4, "f"))
	for i, x := range []struct {
		leaf, level, z int
		want           []int
	}{{3, 2, 1, []int{1}}, {3, 2, 1, []int{5}}, {3, 2, 1, nil}, {0, 1, 2, []int{2, 4}}, {0, 0, 9, []int{3, 7}}, {0, 0, 9, nil}} {
		var got []int
		for _, c := range s.Evict(4, x.leaf, x.level, x.z) {
			got = append(got, c.ID)
			if string(c.Data) != string(rune('a'+c.ID-1)) {
				t.Error(i, c)
			}
		}
		if !slices.Equal(got, x.want) {
			t.Error(i, got)
		}
	}
	if !slices.Equal(s.IDs(), []int{6}) {
		t.Error(s.IDs())
	}
}

// 15.1: none are taken of leaves, a leaf, a level that are none, at their edges.
func TestEvictOfNone(t *testing.T) {
	s, m := made(t, 9, 0, cell(1, 0, ""), cell(2, 1, ""), cell(3, 3, ""), cell(4, 65535, ""), cell(5, 65536, ""), cell(6, most, ""))
	edges := []int{math.MinInt, math.MinInt32, -65536, -4, -1, 0, 1, 2, 3, 4, 5, 16, 17, 31, 32, 63, 64, 65, 65535, 65536, 65537, 131072, math.MaxInt32, math.MaxInt}
	for _, leaves := range edges {
		for _, leaf := range edges {
			for _, level := range edges {
				if _, ok := spot(leaves, leaf, level); ok {
					continue
				}
				if l := s.Evict(leaves, leaf, level, 9); len(l) != 0 {
					t.Fatal(leaves, leaf, level, l)
				}
			}
		}
	}
	holds(t, "none", s, m)
}

// 15.1: the greatest tree, each level of some ways.
func TestEvictOfTheGreatestTree(t *testing.T) {
	var cells []api.Cell
	for i := range 18 {
		cells = append(cells, cell(100-i, 1<<i>>1, ""), cell(200+i, 65535-1<<i>>1, ""), cell(300+i, 65534+i, ""))
	}
	cells = slices.DeleteFunc(cells, func(c api.Cell) bool { return c.Leaf < 0 })
	for _, leaf := range []int{0, 1, 32767, 32768, 65534, 65535, 65536} {
		for level := -1; level <= 17; level++ {
			s, m := made(t, 60, 0, cells...)
			evictBoth(t, s, m, 65536, leaf, level, 60)
			holds(t, "Evict", s, m)
		}
	}
}

// 15.1: State is always as long, of the bytes of the sentence; what was taken leaves noughts behind.
func TestState(t *testing.T) {
	s, m := made(t, 3, 1)
	wants := [][]byte{
		{1, 0, 0, 0, 0, 1, 0, 0, 4, 3, 2, 1, 'a', 0, 0, 0, 0, 0, 0, 0, 0, 0, 0, 0, 0, 0, 0, 0, 0, 0, 0},
		{2, 0, 0, 0, 2, 0, 0, 0, 0, 0, 0, 0, 'b', 0, 1, 0, 0, 4, 3, 2, 1, 'a', 0, 0, 0, 0, 0, 0, 0, 0, 0},
		{3, 0, 0, 0, 2, 0, 0, 0, 0, 0, 0, 0, 'b', 0, 1, 0, 0, 4, 3, 2, 1, 'a', 255, 255, 255, 127, 255, 255, 255, 127, 0},
	}
	for i, c := range []api.Cell{cell(256, 0x01020304, "a"), cell(2, 0, "b"), cell(most, most, "\x00")} {
		putBoth(t, s, m, c)
		if got := s.State(); !bytes.Equal(got, wants[i]) {
			t.Error(i, got)
		}
	}
	takeBoth(t, s, m, most)
	if got := s.State(); !bytes.Equal(got, wants[1]) {
		t.Error(got)
	}
	s.Take(2)
	if got := s.State(); !bytes.Equal(got, wants[0]) {
		t.Error(got)
	}
	s.Evict(1<<16, 0, 0, 9)
	s.Take(256)
	if got := s.State(); !bytes.Equal(got, make([]byte, 31)) {
		t.Error(got)
	}
}

// 15.1: Load: as State tells, in place of all that was there.
func TestLoad(t *testing.T) {
	_, told := made(t, 3, 1, cell(5, 1, "a"), cell(2, 9, "b"), cell(most, most, "c"))
	s, m := made(t, 3, 1, cell(5, 7, "x"), cell(8, 7, "y"))
	for _, state := range [][]byte{told.state(), m.state(), make([]byte, 31), told.state(), told.state()} {
		if !loadBoth(t, s, m, state) {
			t.Error(state)
		}
		holds(t, "Load", s, m)
	}
	putBoth(t, s, m, cell(4, 0, "d"))
	takeBoth(t, s, m, 5)
	putBoth(t, s, m, cell(4, 0, "d"))
	putBoth(t, s, m, cell(2, 0, "e"))
	holds(t, "put behind", s, m)
}

// 15.1: Load is false of each State of which one byte differs so that none tells it, and nothing is done.
func TestLoadOfOneByteChanged(t *testing.T) {
	for _, cells := range [][]api.Cell{nil, {cell(5, 1, "a")}, {cell(5, 1, "a"), cell(2, 9, "b")}, {cell(5, 1, "a"), cell(2, 9, "b"), cell(6, 0, "\x00")}} {
		_, told := made(t, 3, 1, cells...)
		for i := range told.state() {
			for x := range 256 {
				s, m := New(3, 1), newModel(3, 1)
				putBoth(t, s, m, cell(77, 7, "y"))
				b := told.state()
				b[i] = byte(x)
				loadBoth(t, s, m, b)
				if !bytes.Equal(s.State(), m.state()) {
					t.Fatal(i, x)
				}
			}
		}
	}
}

// 15.1: wrong bytes one by one: lengths, counts, Cells that are none, IDs that do not rise, no noughts behind.
func TestLoadRefuses(t *testing.T) {
	good := []byte{2, 0, 0, 0, 2, 0, 0, 0, 9, 0, 0, 0, 'b', 5, 0, 0, 0, 1, 0, 0, 0, 'a', 0, 0, 0, 0, 0, 0, 0, 0, 0}
	with := func(changes ...int) []byte {
		b := bytes.Clone(good)
		for i := 0; i < len(changes); i += 2 {
			b[changes[i]] = byte(changes[i+1])
		}
		return b
	}
	wrong := map[string][]byte{
		"nothing": nil, "a count": good[:4], "half a count": good[:3], "what is full": good[:22], "one less": good[:30], "one more": append(with(), 0),
		"a place more": append(with(), make([]byte, 9)...), "a place less": good[:22],
		"count 0": with(0, 0), "count 1": with(0, 1), "count 3": with(0, 3), "count 4": with(0, 4), "count 2^8": with(1, 1), "count 2^24": with(3, 1), "count 2^31": with(3, 128), "count 2^32-1": with(0, 255, 1, 255, 2, 255, 3, 255),
		"ID 0": with(4, 0), "ID 2^31": with(16, 128), "Leaf 2^31": with(11, 128), "ID twice": with(13, 2), "IDs fall": with(13, 1), "IDs fall far": with(7, 1),
		"an ID behind": with(22, 1), "a Leaf behind": with(26, 1), "Data behind": with(30, 1),
		"a gap": {2, 0, 0, 0, 2, 0, 0, 0, 9, 0, 0, 0, 'b', 0, 0, 0, 0, 0, 0, 0, 0, 0, 5, 0, 0, 0, 1, 0, 0, 0, 'a'},
	}
	s, m := made(t, 3, 1, cell(6, 1, "x"), cell(3, 1, "y"))
	for _, what := range slices.Sorted(maps.Keys(wrong)) {
		if s.Load(wrong[what]) {
			t.Error(what)
		}
		holds(t, what, s, m)
	}
	if !s.Load(good) || !bytes.Equal(s.State(), good) {
		t.Error("good")
	}
}

// 15.1: Load of bytes at random is false of what none tells, and of no more.
func TestLoadOfRandomBytes(t *testing.T) {
	random := rand.New(rand.NewSource(1501))
	took := 0
	for range 100000 {
		room, size := random.Intn(4), random.Intn(3)
		s, m := New(room, size), newModel(room, size)
		putBoth(t, s, m, cell(4, 1, string(make([]byte, size))))
		b := make([]byte, 4+room*(8+size)+random.Intn(41)/40)
		b[0] = byte(random.Intn(room + 2))
		for i := 4; i < len(b); i++ {
			if (i-4)%(8+size) == 0 || random.Intn(8) == 0 {
				b[i] = byte(random.Intn(4))
			}
			if i-4 >= int(b[0])*(8+size) && random.Intn(30) != 0 {
				b[i] = 0
			}
		}
		if loadBoth(t, s, m, b) {
			took++
		}
		holds(t, "random", s, m)
	}
	if took < 10000 || took > 90000 {
		t.Error(took)
	}
}

// 15.1: a State of other most or size is none, but where it says the same.
func TestLoadOfOtherStashes(t *testing.T) {
	for room := range 5 {
		for size := range 5 {
			_, told := made(t, room, size)
			told.put(cell(3, 1, string(bytes.Repeat([]byte{9}, size))))
			for otherRoom := range 5 {
				for otherSize := range 5 {
					s, m := New(otherRoom, otherSize), newModel(otherRoom, otherSize)
					loadBoth(t, s, m, told.state())
					holds(t, "other", s, m)
				}
			}
		}
	}
}

// 15.1: nothing that was handed in is changed or kept, its spare room neither.
func TestNothingIsKept(t *testing.T) {
	s, m := made(t, 3, 2)
	room := []byte("abcdef")
	c := api.Cell{ID: 1, Leaf: 2, Data: room[:2]}
	putBoth(t, s, m, c)
	putBoth(t, s, m, api.Cell{ID: 3, Leaf: 2, Data: room[2:4]})
	state := append(m.state(), 1, 2, 3)[:len(m.state())]
	want := bytes.Clone(state[:cap(state)])
	s.Load(state)
	if string(room) != "abcdef" || !bytes.Equal(state[:cap(state)], want) {
		t.Error(room, state)
	}
	fill(room)
	fill(state)
	holds(t, "changed behind", s, m)
}

// 15.1: what is answered shares nothing with the Stash, nor with what else is answered.
func TestAnswersShareNothing(t *testing.T) {
	var cells []api.Cell
	for id := 1; id <= 9; id++ {
		cells = append(cells, cell(id, id%4, "abc"))
	}
	s, m := made(t, 9, 3, cells...)
	s.Load(m.state())
	fill(s.State())
	ids := s.IDs()
	ids = ids[:cap(ids)]
	for i := range ids {
		ids[i] = -1
	}
	one, _ := s.Take(4)
	m.take(4)
	fill(one.Data)
	holds(t, "State, IDs, Take", s, m)
	l := s.Evict(4, 1, 1, 3)
	m.evict(4, 1, 1, 3)
	other := s.Evict(4, 3, 1, 2)
	m.evict(4, 3, 1, 2)
	fill(l[1].Data)
	if string(l[0].Data) != "abc" || string(l[2].Data) != "abc" || string(other[0].Data) != "abc" {
		t.Error(l, other)
	}
	l = l[:cap(l)]
	for i := range l {
		l[i] = cell(-1, -1, "")
	}
	holds(t, "Evict", s, m)
	if len(other) != 2 || other[0].ID != 2 || other[1].ID != 3 {
		t.Error(other)
	}
}

// 15.1: a Cell that goes round through the answers may be put again.
func TestPutOfWhatWasAnswered(t *testing.T) {
	s, m := made(t, 4, 1, cell(1, 1, "a"), cell(2, 2, "b"), cell(3, 3, "c"))
	for range 3 {
		for _, c := range s.Evict(4, 0, 0, 2) {
			if !s.Put(c) {
				t.Error(c)
			}
			fill(c.Data)
		}
		holds(t, "round", s, m)
	}
}

// randomCall does one call at random on both.
func randomCall(t *testing.T, random *rand.Rand, s *Stash, m *model) {
	t.Helper()
	switch random.Intn(8) {
	case 0, 1, 2, 3:
		data := make([]byte, m.size)
		random.Read(data)
		putBoth(t, s, m, api.Cell{ID: random.Intn(2*m.most + 2), Leaf: random.Intn(18), Data: data})
	case 4:
		takeBoth(t, s, m, random.Intn(2*m.most+2))
	case 5, 6:
		leaves := 1 << random.Intn(5)
		evictBoth(t, s, m, leaves, random.Intn(leaves), random.Intn(6), random.Intn(5))
	case 7:
		b := m.state()
		if random.Intn(3) == 0 {
			b[random.Intn(len(b))] ^= 1 << random.Intn(8)
		}
		loadBoth(t, s, m, b)
	}
}

// 15.1, 15.2: all calls one behind the other are those of the sentence.
func TestLongRuns(t *testing.T) {
	random := rand.New(rand.NewSource(1502))
	for range 300 {
		room, size := random.Intn(30), random.Intn(5)
		s, m := New(room, size), newModel(room, size)
		for range 300 {
			randomCall(t, random, s, m)
			holds(t, "run", s, m)
		}
	}
}

// wander moves Cells between the buckets of a tree and a Stash, as blocks are moved at each use; it tells each bucket's Cells.
func wander(t *testing.T, random *rand.Rand, s *Stash, leaves, z, rounds int) [][]api.Cell {
	t.Helper()
	buckets := make([][]api.Cell, 2*leaves)
	for range rounds {
		leaf := random.Intn(leaves)
		for at := leaves + leaf; at > 0; at /= 2 {
			for _, c := range buckets[at] {
				if !s.Put(c) {
					t.Fatalf("Put of %d, %d there", c.ID, s.Len())
				}
			}
			buckets[at] = nil
		}
		for _, id := range s.IDs() {
			c, _ := s.Take(id)
			if random.Intn(3) == 0 {
				c.Leaf = random.Intn(leaves)
			}
			s.Put(c)
		}
		level := 0
		for 1<<level < leaves {
			level++
		}
		for at := leaves + leaf; at > 0; at /= 2 {
			buckets[at] = s.Evict(leaves, leaf, level, z)
			level--
		}
	}
	return buckets
}

// 15.2: nothing is lost between buckets, and each Cell stands on its leaf's way, at most z in a bucket.
func TestNothingIsLostBetweenBuckets(t *testing.T) {
	random := rand.New(rand.NewSource(1503))
	for _, leaves := range []int{1, 2, 8, 64} {
		const n = 100
		s := New(n, 2)
		for id := 1; id <= n; id++ {
			if !s.Put(cell(id, random.Intn(leaves), string([]byte{byte(id), byte(255 - id)}))) {
				t.Fatal(id)
			}
		}
		buckets := wander(t, random, s, leaves, 4, 300)
		var found []api.Cell
		for at, l := range buckets {
			if len(l) > 4 {
				t.Errorf("bucket %d: %d", at, len(l))
			}
			for _, c := range l {
				below := leaves + c.Leaf
				for below > at {
					below /= 2
				}
				if below != at {
					t.Errorf("bucket %d: leaf %d", at, c.Leaf)
				}
			}
			found = append(found, l...)
		}
		for _, id := range s.IDs() {
			c, _ := s.Take(id)
			found = append(found, c)
		}
		slices.SortFunc(found, func(a, b api.Cell) int { return a.ID - b.ID })
		if len(found) != n {
			t.Fatalf("%d leaves: %d found", leaves, len(found))
		}
		for i, c := range found {
			if c.ID != i+1 || c.Data[0] != byte(c.ID) || c.Data[1] != byte(255-c.ID) {
				t.Errorf("%d leaves: %v", leaves, c)
			}
		}
	}
}

// 15.1, of W2: what State told is all that was held: another Stash that loads it answers as the first does from there on.
func TestStateIsAll(t *testing.T) {
	random := rand.New(rand.NewSource(1504))
	for range 100 {
		room, size := 1+random.Intn(20), random.Intn(4)
		s, m := New(room, size), newModel(room, size)
		for range random.Intn(100) {
			randomCall(t, random, s, m)
		}
		kept := s.State()
		randomCall(t, random, s, m)
		again, told := New(room, size), newModel(room, size)
		if !loadBoth(t, again, told, kept) {
			t.Fatal("Load")
		}
		for range 50 {
			randomCall(t, random, again, told)
			holds(t, "again", again, told)
		}
	}
}

// 15.3: no call panics, whatever it is given.
func TestNoPanic(t *testing.T) {
	edges := []int{math.MinInt, math.MinInt32, -1, 0, 1, 2, 3, 64, 65536, math.MaxInt32, math.MaxInt32 + 1, math.MaxInt}
	for _, room := range []int{math.MinInt, -1, 0, 1, 2, 3} {
		for _, size := range []int{math.MinInt, -1, 0, 1, 60000, math.MaxInt} {
			s := New(room, size)
			for _, b := range [][]byte{nil, {}, {1}, {0, 0, 0, 0}, {255, 255, 255, 255}, make([]byte, 12), bytes.Repeat([]byte{255}, 4+2*9), bytes.Repeat([]byte{1}, 4+3*60008)} {
				s.Load(b)
			}
			for _, x := range edges {
				for _, y := range edges {
					s.Put(api.Cell{ID: x, Leaf: y})
					s.Put(api.Cell{ID: x, Leaf: y, Data: []byte{1}})
					for _, level := range edges {
						s.Evict(x, y, level, y)
						s.Evict(y, x, level, level)
					}
					s.Take(x)
				}
			}
			s.Len()
			s.IDs()
			s.State()
		}
	}
}
