package page

import (
	"bytes"
	"math"
	"slices"
	"strconv"
	"strings"
	"testing"

	"cadastre/api"
)

// The numbers that the chapter names, written out, so that nothing of the program is in what the tests want.
const (
	heapKind, leafKind, innerKind = 1, 2, 3
	opPut, opKill, opWake, opFree = 1, 2, 3, 4
	pageBytes                     = 512
	mostCells                     = 60
	mostCell                      = 180
)

// empty is a cell that is not in use.
var empty = api.Cell{}

// cell is one in use, killed by nobody.
func cell(data string) api.Cell { return api.Cell{Used: true, Data: []byte(data)} }

// dead is a cell that a transaction killed.
func dead(by uint32, data string) api.Cell {
	return api.Cell{Used: true, Killer: by, Data: []byte(data)}
}

// of is a page of a kind, with an LSN and a Next that are not noughts.
func of(kind int, cells ...api.Cell) api.Page {
	return api.Page{Kind: kind, LSN: 0x0102030405060708, Next: 0x0A0B0C0D, Cells: cells}
}

// long is a text of n bytes, each of them the same.
func long(x byte, n int) string { return string(bytes.Repeat([]byte{x}, n)) }

// numbered are n cells whose bytes, of one length from 2 on, rise strictly, in their order.
func numbered(n, length int) []api.Cell {
	var cells []api.Cell
	for i := range n {
		cells = append(cells, cell(string([]byte{byte('A' + i/26), byte('a' + i%26)})+long('.', length-2)))
	}
	return cells
}

// children are n cells of an inner page: entries of one length from 2 on, and a child's number behind each.
func children(n, length int) []api.Cell {
	cells := numbered(n, length)
	for i := range cells {
		cells[i].Data = append(cells[i].Data, 0, 0, 1, byte(200-i))
	}
	return cells
}

// right tells whether a page may be, by the chapter's words alone.
func right(p api.Page) bool {
	whole := 18
	for _, c := range p.Cells {
		switch {
		case c.Used && (len(c.Data) == 0 || len(c.Data) > 180):
			return false
		case !c.Used && (c.Killer != 0 || len(c.Data) > 0):
			return false
		case c.Used:
			whole += 6 + len(c.Data)
		default:
			whole += 2
		}
	}
	if len(p.Cells) > 60 || whole > 512 {
		return false
	}
	var entries []string
	for _, c := range p.Cells {
		switch p.Kind {
		case 2:
			if !c.Used {
				return false
			}
			entries = append(entries, string(c.Data))
		case 3:
			if !c.Used || c.Killer != 0 || len(c.Data) < 5 {
				return false
			}
			entries = append(entries, string(c.Data[:len(c.Data)-4]))
		}
	}
	for i := 1; i < len(entries); i++ {
		if entries[i-1] >= entries[i] {
			return false
		}
	}
	if p.Kind == 1 && len(p.Cells) > 0 {
		return p.Cells[len(p.Cells)-1].Used
	}
	return p.Kind == 1 || p.Kind == 2 || p.Kind == 3
}

// same tells whether two pages are alike; a list that is empty may be nil.
func same(p, q api.Page) bool {
	return p.Kind == q.Kind && p.LSN == q.LSN && p.Next == q.Next && slices.EqualFunc(p.Cells, q.Cells, sameCell)
}

func sameCell(a, b api.Cell) bool {
	return a.Used == b.Used && a.Killer == b.Killer && bytes.Equal(a.Data, b.Data)
}

// none tells whether a page is the zero value.
func none(p api.Page) bool { return same(p, api.Page{}) }

// twin is a page that is alike, and shares nothing.
func twin(p api.Page) api.Page {
	p.Cells = slices.Clone(p.Cells)
	for i := range p.Cells {
		p.Cells[i].Data = bytes.Clone(p.Cells[i].Data)
	}
	return p
}

// may asks what May tells of a page.
func may(t *testing.T, p api.Page, want bool) {
	t.Helper()
	if got := May(p); got != want {
		t.Errorf("May(%s): %v", shown(p), got)
	}
}

// shown is a page in few words.
func shown(p api.Page) string {
	var b strings.Builder
	b.WriteString("kind " + strconv.Itoa(p.Kind) + ":")
	for _, c := range p.Cells {
		switch {
		case len(b.String()) > 300:
			b.WriteByte('.')
		case !c.Used:
			b.WriteString(" -")
		default:
			b.WriteString(" " + string(c.Data))
		}
		if c.Killer != 0 {
			b.WriteString("/" + strconv.Itoa(int(c.Killer)))
		}
	}
	return b.String()
}

// picker answers numbers below n that hang on a seed.
func picker(seed int) func(n int) int {
	x := uint64(seed)*0x9E3779B97F4A7C15 + 88172645463325252
	return func(n int) int {
		x ^= x << 13
		x ^= x >> 7
		x ^= x << 17
		return int(x >> 33 % uint64(n))
	}
}

// otherKinds are numbers that are no kind of pages.
func otherKinds() []int {
	return []int{0, 4, 5, -1, -2, 7, 255, 256, 257, 258, 259, 1 << 16, 1<<16 + 1, 1<<32 + 1, 1<<32 + 2, 1<<32 + 3, math.MaxInt, math.MinInt, math.MinInt + 1}
}

// P7.1: the three kinds alone.
func TestMayKinds(t *testing.T) {
	for _, kind := range []int{heapKind, leafKind, innerKind} {
		may(t, of(kind), true)
		may(t, of(kind, cell("a....")), true)
	}
	for _, kind := range otherKinds() {
		may(t, of(kind), false)
		may(t, of(kind, cell("a....")), false)
		may(t, of(kind, cell("a...."), cell("b....")), false)
	}
	may(t, api.Page{}, false)
	may(t, api.Page{Kind: heapKind}, true)
	may(t, api.Page{Kind: leafKind, LSN: math.MaxUint64, Next: math.MaxUint32}, true)
}

// P7.1: how many bytes a cell in use has, ahead of all others, between them, behind them.
func TestMayData(t *testing.T) {
	for n := range 300 {
		data := long('m', n)
		for _, kind := range []int{heapKind, leafKind, innerKind} {
			least := 1
			if kind == innerKind {
				least = 5
			}
			want := n >= least && n <= mostCell
			may(t, of(kind, cell(data)), want)
			may(t, of(kind, cell(data), cell("zzzzz")), want)
			may(t, of(kind, cell("aaaaa"), cell(data)), want)
			may(t, of(kind, cell("aaaaa"), cell(data), cell("zzzzz")), want)
		}
	}
	for _, n := range []int{181, 436, 1 << 16, 1<<16 + 5} {
		for _, kind := range []int{heapKind, leafKind, innerKind} {
			may(t, of(kind, cell(long('m', n))), false)
		}
	}
}

// P7.1: one that is not in use has the Killer 0 and no bytes.
func TestMayUnused(t *testing.T) {
	bad := []api.Cell{{Killer: 1}, {Killer: math.MaxUint32}, {Killer: 1 << 31}, {Data: []byte("a")}, {Data: []byte("aaaaa")}, {Data: make([]byte, 181)}, {Killer: 1, Data: []byte("a")}}
	for _, c := range bad {
		may(t, of(heapKind, c, cell("a")), false)
		may(t, of(heapKind, cell("a"), c, cell("a")), false)
		may(t, of(heapKind, empty, c, cell("a")), false)
		for _, kind := range []int{heapKind, leafKind, innerKind} {
			may(t, of(kind, c), false)
		}
	}
	may(t, of(heapKind, empty, cell("a")), true)
	may(t, of(heapKind, api.Cell{Data: []byte{}}, cell("a")), true)
}

// P7.1: a heap's last cell is in use; those ahead of it may be as they will, and in whatever order.
func TestMayHeap(t *testing.T) {
	for _, cells := range [][]api.Cell{{cell("b"), cell("a")}, {cell("a"), cell("a")}, {dead(7, "a")}, {empty, dead(math.MaxUint32, "a")}, {empty, empty, empty, cell("a")}, {cell("a"), empty, dead(1, "\x00")}} {
		may(t, of(heapKind, cells...), true)
		may(t, of(heapKind, append(slices.Clone(cells), empty)...), false)
		may(t, of(heapKind, append(slices.Clone(cells), empty, empty)...), false)
		may(t, of(heapKind, append(slices.Clone(cells), empty, empty, cell("z"))...), true)
	}
	may(t, of(heapKind, empty), false)
	may(t, of(heapKind, empty, empty), false)
}

// P7.1: all cells of a leaf, of an inner page are in use, wherever they stand.
func TestMayAllUsed(t *testing.T) {
	for _, kind := range []int{leafKind, innerKind} {
		cells := children(5, 2)
		may(t, of(kind, cells...), true)
		may(t, of(kind, empty), false)
		for i := range len(cells) + 1 {
			may(t, of(kind, slices.Insert(slices.Clone(cells), i, empty)...), false)
			may(t, of(kind, append(slices.Clone(cells[:i]), empty)...), false)
		}
	}
}

// P7.1: cells of a leaf may be killed, those of an inner page not.
func TestMayKilled(t *testing.T) {
	for _, by := range []uint32{1, 2, 255, 256, 1 << 16, 1 << 31, math.MaxUint32} {
		for i := range 4 {
			cells := children(4, 2)
			cells[i].Killer = by
			may(t, of(heapKind, cells...), true)
			may(t, of(leafKind, cells...), true)
			may(t, of(innerKind, cells...), false)
		}
	}
}

// shortTexts are all texts of up to n of some bytes.
func shortTexts(n int, letters string) []string {
	texts := []string{""}
	for from := 0; n > 0; n-- {
		to := len(texts)
		for _, s := range texts[from:to] {
			for _, x := range []byte(letters) {
				texts = append(texts, s+string([]byte{x}))
			}
		}
		from = to
	}
	return texts
}

// P7.1: a leaf's Data rise strictly, as texts of bytes; an inner page's likewise, without their last four bytes, whatever these are.
func TestMayOrder(t *testing.T) {
	texts := shortTexts(3, "\x00a\x80\xff")[1:]
	for _, a := range texts {
		for _, b := range texts {
			may(t, of(leafKind, cell(a), cell(b)), a < b)
			may(t, of(leafKind, cell(a), dead(3, b)), a < b)
			for _, ends := range [][2]string{{"\x00\x00\x00\x01", "\x00\x00\x00\x02"}, {"\xff\xff\xff\xff", "\x00\x00\x00\x00"}, {"same", "same"}} {
				may(t, of(innerKind, cell(a+ends[0]), cell(b+ends[1])), a < b)
			}
			may(t, of(heapKind, cell(a), cell(b)), true)
		}
	}
	for i := range 4 {
		cells := children(5, 3)
		cells[i], cells[i+1] = cells[i+1], cells[i]
		may(t, of(leafKind, cells...), false)
		may(t, of(innerKind, cells...), false)
		cells[i] = cells[i+1]
		may(t, of(leafKind, cells...), false)
		may(t, of(innerKind, cells...), false)
	}
}

// P7.1: an inner page's entries alone are ordered: with the numbers behind them their bytes may fall.
func TestMayInnerPrefix(t *testing.T) {
	p := of(innerKind, cell("a\xff\xff\xff\xff"), cell("ab\x00\x00\x00\x01"), cell("b\x00\x00\x00\x00"))
	may(t, p, true)
	p.Kind = leafKind
	may(t, p, false)
	p = of(innerKind, cell("a\x00\x00\x00\x01"), cell("a\x00\x00\x00\x02"))
	may(t, p, false)
	p.Kind = leafKind
	may(t, p, true)
}

// P7.1: sixty cells, and not one more, of every kind.
func TestMayMany(t *testing.T) {
	for n := 50; n < 70; n++ {
		unused := append(slices.Repeat([]api.Cell{empty}, n-1), cell("a"))
		may(t, of(heapKind, unused...), n <= mostCells)
		cells := numbered(n, 2)
		may(t, of(heapKind, cells...), n <= mostCells)
		may(t, of(leafKind, cells...), n <= mostCells)
		for i := range cells {
			cells[i].Data = cells[i].Data[:1]
			cells[i].Data[0] = byte(i)
		}
		may(t, of(leafKind, cells...), n <= mostCells)
	}
	may(t, of(heapKind, append(make([]api.Cell, 1<<16), cell("a"))...), false)
	may(t, of(leafKind, numbered(256, 2)...), false)
}

// withBytes are cells that have so many bytes in all, with their heads; of any kind of pages.
func withBytes(size int) []api.Cell {
	var cells []api.Cell
	for i := 0; size > 0; i++ {
		n := min(size, 106)
		if size-n > 0 && size-n < 20 {
			n -= 20
		}
		cells = append(cells, cell(long(byte('a'+i), n-6)))
		size -= n
	}
	return cells
}

// P7.1: 512 bytes, and not one more, of every kind.
func TestMayBig(t *testing.T) {
	for size := 300; size < 600; size++ {
		for _, kind := range []int{heapKind, leafKind, innerKind} {
			p := of(kind, withBytes(size-18)...)
			if got := Size(p); got != size {
				t.Fatalf("Size: %d, want %d", got, size)
			}
			may(t, p, size <= pageBytes)
		}
		p := of(heapKind, append([]api.Cell{empty, empty, empty}, withBytes(size-24)...)...)
		if got := Size(p); got != size {
			t.Fatalf("Size: %d, want %d", got, size)
		}
		may(t, p, size <= pageBytes)
	}
}

// someCells are cells of each sort, few enough for all rows of three.
func someCells() []api.Cell {
	return []api.Cell{empty, {Killer: 9}, {Data: []byte("x")}, {Used: true}, {Used: true, Killer: 9}, cell("a"), dead(9, "a"), cell("b"), cell("abcd"), cell("abcde"), dead(9, "abcde"),
		cell("bbcde"), cell("abcdef"), cell("ab\x00\x00\x00\x00"), cell(long('c', 180)), cell(long('c', 181)), cell(long('d', 180))}
}

// allPages are all pages of each kind, and of none, of up to three such cells.
func allPages(do func(p api.Page)) {
	cells := someCells()
	for kind := range 5 {
		do(of(kind))
		for _, a := range cells {
			do(of(kind, a))
			for _, b := range cells {
				do(of(kind, a, b))
				for _, c := range cells {
					do(of(kind, a, b, c))
				}
			}
		}
	}
}

// P7.1: May of all of them is what the chapter's words say.
func TestMayAll(t *testing.T) {
	yes := 0
	allPages(func(p api.Page) {
		want := right(p)
		may(t, p, want)
		if want {
			yes++
		}
	})
	if yes < 500 {
		t.Errorf("but %d pages that may be: not a test", yes)
	}
}

// P7.1: Size, whether the page may be or not.
func TestSize(t *testing.T) {
	for _, c := range []struct {
		p    api.Page
		want int
	}{
		{api.Page{}, 18},
		{of(heapKind), 18},
		{of(leafKind), 18},
		{of(99, cell("abc")), 27},
		{of(heapKind, cell("a")), 25},
		{of(heapKind, empty, cell("ab")), 28},
		{of(heapKind, cell("ab"), empty, empty), 30},
		{of(leafKind, dead(1, "b"), cell("a")), 32},
		{of(innerKind, cell("")), 24},
		{of(heapKind, api.Cell{Data: []byte("not in use"), Killer: 3}), 20},
		{of(heapKind, cell(long('a', 180)), cell(long('a', 180)), cell(long('a', 180))), 576},
		{of(heapKind, cell(long('a', 100000))), 100024},
		{of(heapKind, make([]api.Cell, 1000)...), 2018},
		{of(leafKind, numbered(1000, 3)...), 9018},
	} {
		if got := Size(c.p); got != c.want {
			t.Errorf("Size(%s): %d, want %d", shown(c.p), got, c.want)
		}
	}
}

// room asks what Room tells of a page.
func room(t *testing.T, p api.Page, want int) {
	t.Helper()
	if got := Room(p); got != want {
		t.Errorf("Room(%s): %d, want %d", shown(p), got, want)
	}
}

// P7.1: Room of known pages.
func TestRoomKnown(t *testing.T) {
	full := numbered(60, 2)
	withHole := append([]api.Cell{empty}, full[1:]...)
	for _, c := range []struct {
		p    api.Page
		want int
	}{
		{of(heapKind), 180},
		{of(leafKind), 180},
		{of(innerKind), 0},
		{of(innerKind, cell("abcde")), 0},
		{of(0), 0},
		{api.Page{}, 0},
		{of(4, cell("a")), 0},
		{of(heapKind, full...), 0},
		{of(leafKind, full...), 0},
		{of(heapKind, withHole...), 512 - 18 - 59*8 - 6},
		{of(heapKind, full[:59]...), 512 - 18 - 59*8 - 6},
		{of(leafKind, full[:59]...), 512 - 18 - 59*8 - 6},
		{of(heapKind, append([]api.Cell{empty}, full[:59]...)...), 16},
		{of(heapKind, append(slices.Repeat([]api.Cell{empty}, 59), cell("a"))...), 180},
		{of(heapKind, append(slices.Repeat([]api.Cell{empty}, 60), cell("a"))...), 0},
		{of(heapKind, cell("a"), empty), 0},
		{of(leafKind, cell("b"), cell("a")), 0},
		{of(leafKind, cell("a"), empty), 0},
		{of(heapKind, cell("")), 0},
		{of(heapKind, cell(long('a', 181))), 0},
	} {
		room(t, c.p, c.want)
	}
}

// P7.1: Room of pages of every size: what is left beside six bytes, or four where the cell's place is there; 0, and never more than 180.
func TestRoomSizes(t *testing.T) {
	for size := 100; size <= pageBytes; size++ {
		for _, kind := range []int{heapKind, leafKind} {
			room(t, of(kind, withBytes(size-18)...), min(max(512-size-6, 0), 180))
		}
		room(t, of(innerKind, withBytes(size-18)...), 0)
		room(t, of(heapKind, append([]api.Cell{empty}, withBytes(size-20)...)...), min(max(512-size-4, 0), 180))
		room(t, of(heapKind, append([]api.Cell{cell("a"), empty, empty}, withBytes(size-29)...)...), min(max(512-size-4, 0), 180))
	}
	for _, kind := range []int{heapKind, leafKind} {
		room(t, of(kind, withBytes(513-18)...), 0)
	}
}

// P7.1, P7.7: Room is the most for which a Put anywhere is done.
func TestRoomIsMost(t *testing.T) {
	allPages(func(p api.Page) {
		want := 0
		if right(p) {
			for slot := range len(p.Cells) + 1 {
				want = max(want, mostPut(p, slot))
			}
		}
		room(t, p, want)
	})
}

// mostPut is how many bytes a Put at a heap's slot, or on a leaf, may have; 0: none is done.
func mostPut(p api.Page, slot int) int {
	if p.Kind == leafKind {
		slot = 0
	}
	for n := 181; n > 0; n-- {
		if _, e := Do(p, api.Op{Kind: opPut, Slot: slot, Data: []byte(long('~', n))}); e == api.OK {
			return n
		}
	}
	return 0
}
