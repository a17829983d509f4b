package kernel

import (
	"fmt"
	"math"
	"slices"
	"strings"
	"testing"

	"cadastre/api"
	"cadastre/disk"
	"cadastre/wal"
)

// The chapter's examples, one by one.
func TestExamples(t *testing.T) {
	d := formatted(t, 16, 13)
	k := opened(t, d, 8)
	if got := k.Pages(); got != 13 {
		t.Fatalf("Pages: %d", got)
	}
	shapes(t, k, image(1, heap()))
	if a, b := begins(t, k), begins(t, k); a != 1 || b != 2 {
		t.Fatalf("Begin: %d, %d", a, b)
	}
	does(t, k, 1, 1, put(0, "a"))
	does(t, k, 2, 1, put(1, "b"))
	is(t, "Do(2, 1, 0, Kill 0 by 1)", k.Do(2, 1, 0, kill(0, 1)), errArg)
	is(t, "Commit(2)", k.Commit(2), api.OK)
	d.Cut()
	k = opened(t, d, 8)
	reads(t, k, 1, heap(api.Cell{}, cell("b")))
	if got := begins(t, k); got != 3 {
		t.Fatalf("Begin: %d", got)
	}
	if l, e := k.Fresh(2); !slices.Equal(l, []uint32{1, 2}) || e != api.OK {
		t.Fatalf("Fresh(2): %d, %d", l, int(e))
	}
	k.Release([]uint32{1})
	if l, e := k.Fresh(2); !slices.Equal(l, []uint32{1, 3}) || e != api.OK {
		t.Fatalf("Fresh(2): %d, %d", l, int(e))
	}
	is(t, "Use(14)", k.Use([]uint32{14}), errRange)
}

// newStand is a stand with the plots, and two live transactions.
func newStand(t *testing.T) *stand {
	t.Helper()
	x := standOf(t, leastLog, 8, leastFrames)
	for _, c := range []call{{kind: 's', images: plots()}, {kind: 'b'}, {kind: 'b'}} {
		x.ask(t, c, api.OK)
	}
	return x
}

// ask asks what a call answers, of both.
func (x *stand) ask(t *testing.T, c call, want api.Errno) answer {
	t.Helper()
	got := follows(t, func() string { return "" }, x.k, x.m, c, true)
	if got.e != want {
		t.Fatalf("%v answers %d, want %d", c, int(got.e), int(want))
	}
	return got
}

// P14.4: which operation may be done, in the order of the errors.
func TestDoErrors(t *testing.T) {
	x := newStand(t)
	// A tree 7, of which one way leads to a heap, and the other one beyond the disk.
	x.ask(t, call{kind: 's', images: []api.Image{image(7, inner(1, childCell("k", 99)))}}, api.OK)
	long := strings.Repeat("z", 147)
	for _, c := range []struct {
		txn, page, root uint32
		op              api.Op
		want            api.Errno
	}{
		{0, 1, 0, put(0, "a"), errTxn}, {3, 1, 0, put(0, "a"), errTxn}, {greatest, 99, 99, api.Op{}, errTxn}, {3, 0, 0, kill(77, 1), errTxn},
		{1, 99, 99, api.Op{}, errArg}, {1, 1, 0, api.Op{Kind: opWake}, errArg}, {1, 1, 0, api.Op{Kind: opFree}, errArg}, {1, 1, 0, api.Op{Kind: 5}, errArg}, {1, 1, 0, api.Op{Kind: -1}, errArg},
		{1, 3, 3, api.Op{Kind: opWake, Data: []byte("d")}, errArg}, {1, 3, 3, api.Op{Kind: opFree, Data: []byte("d")}, errArg},
		{1, 1, 0, put(0, ""), errArg}, {1, 1, 0, put(0, strings.Repeat("a", 181)), errArg}, {1, 2, 0, api.Op{Kind: opKill, Txn: 1, Data: []byte("old")}, errArg}, {1, 3, 3, api.Op{Kind: opPut, Slot: 1, Data: []byte("c")}, errArg}, {1, 3, 3, kill(0, 1), errArg},
		{1, 1, 0, api.Op{Kind: opPut, Txn: 1, Data: []byte("a")}, errArg},
		{1, 1, 0, put(-1, "a"), errArg}, {1, 1, 0, put(60, "a"), errArg}, {1, 2, 0, kill(60, 1), errArg}, {1, 2, 0, kill(math.MinInt, 1), errArg}, {1, 2, 0, kill(math.MaxInt, 1), errArg}, {1, 99, 0, put(60, "a"), errArg},
		{1, 2, 0, kill(0, 2), errArg}, {1, 2, 0, kill(0, 0), errArg}, {1, 3, 3, killOf("b", 2), errArg}, {1, 99, 0, kill(0, 2), errArg}, {1, 99, 99, killOf("b", 2), errArg},
		{1, 3, 3, putOf(long), errArg}, {1, 99, 3, putOf(long), errArg}, {1, 3, 99, putOf("a"), errRange}, {1, 3, greatest, putOf("a"), errRange}, {1, 3, 1, putOf("a"), errForm}, {1, 3, 8, putOf("a"), errForm}, {1, 1, 7, putOf("a"), errForm}, {1, 1, 7, putOf("k"), errRange},
		{1, 5, 4, putOf("m"), errArg}, {1, 6, 4, putOf("l"), errArg}, {1, 4, 4, putOf("m"), errArg}, {1, 3, 4, putOf("a"), errArg}, {1, 99, 4, putOf("a"), errArg}, {1, 0, 4, putOf("a"), errArg}, {1, 5, 4, killOf("m", 1), errArg},
		{1, 0, 0, put(0, "a"), errRange}, {1, 9, 0, put(0, "a"), errRange}, {1, greatest, 0, kill(0, 1), errRange},
		{1, 8, 0, put(0, "a"), errForm}, {1, 3, 0, put(0, "a"), errForm}, {1, 4, 0, kill(0, 1), errForm}, {1, 5, 0, put(59, "a"), errForm},
		{1, 1, 0, put(1, "a"), errRange}, {1, 1, 0, put(59, "a"), errRange}, {1, 1, 0, kill(0, 1), errNone}, {1, 2, 0, kill(59, 1), errNone}, {1, 2, 0, kill(1, 1), errNone}, {1, 2, 0, put(0, "a"), errThere}, {1, 2, 0, kill(2, 1), errThere},
		{1, 3, 3, putOf("b"), errThere}, {1, 3, 3, putOf("d"), errThere}, {1, 3, 3, killOf("c", 1), errNone}, {1, 3, 3, killOf("d", 1), errThere}, {1, 5, 4, killOf("b", 1), errNone},
	} {
		x.ask(t, call{kind: 'd', txn: c.txn, page: c.page, root: c.root, op: c.op}, c.want)
	}
	// What may be done, at the ends.
	x.ask(t, call{kind: 'd', txn: 1, page: 1, op: put(0, strings.Repeat("a", 180))}, api.OK)
	x.ask(t, call{kind: 'd', txn: 2, page: 1, op: put(1, strings.Repeat("b", 180))}, api.OK)
	x.ask(t, call{kind: 'd', txn: 2, page: 1, op: put(2, strings.Repeat("b", 117))}, errFull)
	x.ask(t, call{kind: 'd', txn: 2, page: 1, op: put(2, strings.Repeat("b", 116))}, api.OK)
	x.ask(t, call{kind: 'd', txn: 2, page: 3, root: 3, op: putOf(strings.Repeat("c", 146))}, api.OK)
	x.ask(t, call{kind: 'd', txn: 1, page: 6, root: 4, op: killOf("m", 1)}, api.OK)
	agreesInLog(t, func() string { return "" }, x.d, x.k, x.m)
}

// P14.4: all places of a heap's page, up to the last one.
func TestDoSlots(t *testing.T) {
	x := newStand(t)
	for slot := range mostCells {
		x.ask(t, call{kind: 'd', txn: 1, page: 1, op: put(slot, "a")}, api.OK)
	}
	x.ask(t, call{kind: 'd', txn: 1, page: 1, op: put(mostCells, "a")}, errArg)
	for slot := range mostCells {
		x.ask(t, call{kind: 'd', txn: 1, page: 1, op: kill(slot, 1)}, api.OK)
	}
	x.ask(t, call{kind: 'k', txn: 1, point: x.m.txns[1].deeds[70].lsn}, api.OK)
	x.ask(t, call{kind: 'k', txn: 1}, api.OK)
	reads(t, x.k, 1, heap())
}

// P14.5: which pages may be shaped, in the order of the errors.
func TestShapeErrors(t *testing.T) {
	x := newStand(t)
	no := api.Page{Kind: 4}
	unlike := heap(cell(strings.Repeat("a", 181)))
	for _, c := range []struct {
		images []api.Image
		want   api.Errno
	}{
		{nil, errArg}, {[]api.Image{}, errArg}, {[]api.Image{image(0, heap())}, errArg}, {[]api.Image{image(0, heap()), image(1, heap())}, errArg}, {[]api.Image{image(1, heap()), image(1, heap())}, errArg}, {[]api.Image{image(2, heap()), image(1, heap())}, errArg},
		{[]api.Image{image(99, no), image(98, heap())}, errArg}, {[]api.Image{image(1, heap()), image(3, heap()), image(2, heap())}, errArg},
		{[]api.Image{image(9, heap())}, errRange}, {[]api.Image{image(1, no), image(9, heap())}, errRange}, {[]api.Image{image(1, heap()), image(greatest, no)}, errRange},
		{[]api.Image{image(1, no)}, errForm}, {[]api.Image{image(8, api.Page{})}, errForm}, {[]api.Image{image(1, heap()), image(2, unlike)}, errForm}, {[]api.Image{image(1, leaf(0, cell("b"), cell("a"))), image(2, heap())}, errForm}, {[]api.Image{image(1, inner(2, dead(3, "a...."))), image(2, heap())}, errForm}, {[]api.Image{image(1, heap(cell("a"), api.Cell{}))}, errForm},
	} {
		x.ask(t, call{kind: 's', images: c.images}, c.want)
	}
	x.ask(t, call{kind: 's', images: []api.Image{image(1, lsnOf(heap(cell("a")), 77)), image(3, lsnOf(leaf(5), 1<<63)), image(8, inner(0))}}, api.OK)
	x.ask(t, call{kind: 's', images: []api.Image{image(8, heap(dead(greatest, "a")))}}, api.OK)
	agreesInLog(t, func() string { return "" }, x.d, x.k, x.m)
}

// full is a heap's page with so many bytes of Data in all, up to 476.
func full(n int) api.Page {
	p := heap()
	for n > 0 {
		take := min(n, 120)
		p.Cells = append(p.Cells, cell(strings.Repeat("x", take)))
		n -= take
	}
	return p
}

// P14.5: a Shape of more than MaxRecord bytes; on a log that has room for it, or not.
func TestShapeLong(t *testing.T) {
	for _, n := range []int{leastLog, 60} {
		x := standOf(t, n, 50, leastFrames)
		var images []api.Image
		var r api.Record
		for number := uint32(1); number <= 34; number++ {
			images = append(images, image(number, full(460)))
		}
		r = api.Record{Kind: recShape, Images: images}
		over := bytesOf(r) - mostRecord
		if over > 0 || over < -460 {
			t.Fatalf("%d bytes over", over)
		}
		last := 0
		for last = 1; ; last++ {
			r.Images = append(slices.Clip(images), image(35, full(last)))
			if bytesOf(r) == mostRecord {
				break
			}
		}
		want := api.OK
		if n == leastLog {
			want = errFull
		}
		x.ask(t, call{kind: 's', images: append(slices.Clip(images), image(35, full(last+1)))}, errLong)
		x.ask(t, call{kind: 's', images: r.Images}, want)
		x.ask(t, call{kind: 's', images: append(slices.Clip(images), image(35, full(last+1)), image(51, heap()))}, errRange)
		x.ask(t, call{kind: 's', images: append(slices.Clip(images), image(35, full(last+1)), image(36, api.Page{}))}, errForm)
		agreesInLog(t, func() string { return "" }, x.d, x.k, x.m)
	}
}

// fills lets the log have just so much Room, by Shapes of the page 8.
func (x *stand) fills(t *testing.T, room int) {
	t.Helper()
	gap := x.m.room() - room
	for gap > 0 {
		n := gap
		if n > 130 {
			n = 110
		}
		p := heap(cell(strings.Repeat("y", n-10)))
		if got := bytesOf(api.Record{Kind: recShape, Images: []api.Image{image(8, p)}}); got != n {
			t.Fatalf("a Shape of %d bytes, want %d", got, n)
		}
		x.ask(t, call{kind: 's', images: []api.Image{image(8, p)}}, api.OK)
		gap -= n
	}
	if x.m.room() != room || x.k.Log().Room() != room {
		t.Fatalf("Room %d, %d, want %d", x.m.room(), x.k.Log().Room(), room)
	}
}

// P14.3 to P14.5, P14.8: how much Room the log must have: at the border, and one less.
func TestRoom(t *testing.T) {
	cases := []struct {
		first []call
		call  call
		keeps int // what is to be left behind the record
		size  int // of the record
	}{
		{nil, call{kind: 'b'}, 40, 4},
		{[]call{{kind: 'b'}, {kind: 'b'}}, call{kind: 'b'}, 120, 4},
		{[]call{{kind: 'b'}, {kind: 'd', txn: 1, page: 1, op: put(0, "abc")}, {kind: 'd', txn: 1, page: 2, op: kill(0, 1)}}, call{kind: 'b'}, 40 + 40 + 48 + 3 + 48, 4},
		{[]call{{kind: 'b'}}, call{kind: 'd', txn: 1, page: 1, op: put(0, "abcd")}, 40 + 48 + 4, 15},
		{[]call{{kind: 'b'}}, call{kind: 'd', txn: 1, page: 2, op: kill(0, 1)}, 40 + 48, 11},
		{[]call{{kind: 'b'}}, call{kind: 'd', txn: 1, page: 3, root: 3, op: putOf("cc")}, 40 + 48 + 2, 13},
		{[]call{{kind: 'b'}}, call{kind: 'd', txn: 1, page: 3, root: 3, op: killOf("b", 1)}, 40 + 48 + 1, 12},
		{[]call{{kind: 'b'}, {kind: 'd', txn: 1, page: 1, op: put(0, "abc")}, {kind: 'k', txn: 1}}, call{kind: 'd', txn: 1, page: 3, root: 3, op: killOf("b", 1)}, 40 + 48 + 1, 12},
		{[]call{{kind: 'b'}, {kind: 'd', txn: 1, page: 1, op: put(0, "abc")}, {kind: 'c', txn: 1}}, call{kind: 's', images: []api.Image{image(1, heap(cell("abcd")))}}, 0, 14},
		{[]call{{kind: 'b'}, {kind: 'd', txn: 1, page: 1, op: put(0, "abc")}, {kind: 'b'}, {kind: 'd', txn: 2, page: 3, root: 3, op: putOf("c")}, {kind: 'a', txn: 2}}, call{kind: 's', images: []api.Image{image(2, heap(cell("abcd")))}}, 40 + 48 + 3, 14},
		{[]call{{kind: 'b'}, {kind: 'd', txn: 1, page: 1, op: put(0, "abc")}}, call{kind: 'x'}, 40 + 48 + 3, 10},
	}
	for i, c := range cases {
		for _, less := range []int{0, 1} {
			x := standOf(t, leastLog, 8, leastFrames)
			x.ask(t, call{kind: 's', images: plots()}, api.OK)
			for _, f := range c.first {
				x.ask(t, f, api.OK)
			}
			x.fills(t, c.keeps+c.size-less)
			want := api.OK
			if less > 0 {
				want = errFull
			}
			x.ask(t, c.call, want)
			if want == api.OK && x.m.room() != c.keeps {
				t.Fatalf("case %d: %d are left, want %d", i, x.m.room(), c.keeps)
			}
			agreesInLog(t, func() string { return fmt.Sprint(i) }, x.d, x.k, x.m)
			// Nothing of this is in the way of the end.
			for _, txn := range x.m.lives() {
				x.ask(t, call{kind: "ca"[i%2], txn: txn}, api.OK)
			}
			x.ask(t, call{kind: 'x'}, api.OK)
			x.ask(t, call{kind: 'b'}, api.OK)
		}
	}
}

// P14.3: so many transactions may live, and no more; their numbers do not come again.
func TestBegins(t *testing.T) {
	x := standOf(t, leastLog, 8, leastFrames)
	for range mostTxns {
		x.ask(t, call{kind: 'b'}, api.OK)
	}
	x.ask(t, call{kind: 'b'}, errFull)
	if got := x.k.Lives(); len(got) != 16 || got[0] != 1 || got[15] != 16 {
		t.Fatalf("Lives: %d", got)
	}
	x.ask(t, call{kind: 'a', txn: 16}, api.OK)
	x.ask(t, call{kind: 'c', txn: 3}, api.OK)
	for _, want := range []uint32{17, 18} {
		if a := x.ask(t, call{kind: 'b'}, api.OK); a.txn != want {
			t.Fatalf("Begin: %d, want %d", a.txn, want)
		}
	}
	x.ask(t, call{kind: 'b'}, errFull)
	for _, txn := range []uint32{3, 16, 0, 19, greatest} {
		x.ask(t, call{kind: 'c', txn: txn}, errTxn)
		x.ask(t, call{kind: 'a', txn: txn}, errTxn)
		x.ask(t, call{kind: 'k', txn: txn}, errTxn)
		if x.k.Live(txn) || x.k.Point(txn) != 0 {
			t.Fatalf("%d is live", txn)
		}
	}
	for _, txn := range x.m.lives() {
		x.ask(t, call{kind: 'a', txn: txn}, api.OK)
	}
	for range 3 {
		x.ask(t, call{kind: 'x'}, api.OK)
		x.d.Cut()
		x.k = opened(t, x.d, 8)
	}
	if got := begins(t, x.k); got != 19 {
		t.Fatalf("Begin: %d, want 19", got)
	}
}

// P14.3: where the numbers end.
func TestLastNumber(t *testing.T) {
	for _, kept := range []uint32{greatest - 2, greatest - 1, greatest} {
		d := formatted(t, leastLog, 3)
		l, _, e := wal.Open(d)
		is(t, "wal.Open", e, api.OK)
		is(t, "Reset", l.Reset(kept), api.OK)
		k := opened(t, d, 8)
		for want := kept; want < greatest; want++ {
			if txn, e := k.Begin(); txn != want || e != api.OK {
				t.Fatalf("Begin with %d: %d, %d", kept, txn, int(e))
			}
		}
		for range 2 {
			if txn, e := k.Begin(); txn != 0 || e != errFull {
				t.Fatalf("Begin behind the last number: %d, %d", txn, int(e))
			}
		}
		is(t, "Check", k.Check(), api.OK)
		for _, txn := range k.Lives() {
			is(t, "Abort", k.Abort(txn), api.OK)
		}
		is(t, "Check", k.Check(), api.OK)
		d.Cut()
		if txn, e := opened(t, d, 8).Begin(); txn != 0 || e != errFull {
			t.Fatalf("Begin behind a restart: %d, %d", txn, int(e))
		}
	}
}

// P14.6: points, and going back to them.
func TestBack(t *testing.T) {
	x := newStand(t)
	var points []uint64
	for i, op := range []api.Op{put(0, "a"), put(1, "b"), kill(0, 1), kill(1, 1), put(2, "c")} {
		if got := x.k.Point(1); i > 0 && got == 0 || i == 0 && got != 0 {
			t.Fatalf("Point: %d", got)
		}
		points = append(points, x.k.Point(1))
		x.ask(t, call{kind: 'd', txn: 1, page: 1, op: op}, api.OK)
		x.ask(t, call{kind: 'd', txn: 2, page: 3, root: 3, op: putOf(fmt.Sprint("e", i))}, api.OK)
	}
	for _, point := range []uint64{points[1] - 1, points[1] + 1, x.k.Point(2), 1, 2, math.MaxUint64, x.k.Point(1) + 1, x.m.txns[1].last + 1} {
		x.ask(t, call{kind: 'k', txn: 1, point: point}, errArg)
	}
	x.ask(t, call{kind: 'k', txn: 1, point: x.k.Point(1)}, api.OK)
	reads(t, x.k, 1, heap(dead(1, "a"), dead(1, "b"), cell("c")))
	gone := x.k.Point(1)
	x.ask(t, call{kind: 'k', txn: 1, point: points[4]}, api.OK)
	reads(t, x.k, 1, heap(dead(1, "a"), dead(1, "b")))
	x.ask(t, call{kind: 'k', txn: 1, point: gone}, errArg)
	x.ask(t, call{kind: 'k', txn: 1, point: points[2]}, api.OK)
	reads(t, x.k, 1, heap(cell("a"), cell("b")))
	x.ask(t, call{kind: 'd', txn: 1, page: 1, op: put(2, "d")}, api.OK)
	x.ask(t, call{kind: 'k', txn: 1, point: points[1]}, api.OK)
	reads(t, x.k, 1, heap(cell("a")))
	if x.k.Point(1) != points[1] {
		t.Fatalf("Point: %d, want %d", x.k.Point(1), points[1])
	}
	x.ask(t, call{kind: 'k', txn: 1}, api.OK)
	x.ask(t, call{kind: 'k', txn: 1}, api.OK)
	reads(t, x.k, 1, heap())
	x.ask(t, call{kind: 'a', txn: 2}, api.OK)
	x.ask(t, call{kind: 'c', txn: 1}, api.OK)
	agreesInLog(t, func() string { return "" }, x.d, x.k, x.m)
}

// P14.6, P14.7: where an operation can't be taken back, none is.
func TestBackNot(t *testing.T) {
	ways := map[string][]call{
		"a heap's cell is gone":          {{kind: 's', images: []api.Image{image(1, heap())}}},
		"a heap is none any more":        {{kind: 's', images: []api.Image{image(1, leaf(0, cell("a")))}}},
		"a killed cell is awake":         {{kind: 's', images: []api.Image{image(2, heap(cell("old")))}}},
		"a leaf's cell is gone":          {{kind: 's', images: []api.Image{image(3, leaf(0, cell("b"), dead(99, "d")))}}},
		"the way to a leaf leads beyond": {{kind: 's', images: []api.Image{image(3, inner(77, childCell("z", 78)))}}},
		"the way to a leaf ends":         {{kind: 's', images: []api.Image{image(3, inner(0))}}},
		"the way leads to a heap":        {{kind: 's', images: []api.Image{image(3, inner(1, childCell("z", 1)))}}},
	}
	for what, calls := range ways {
		x := newStand(t)
		for _, c := range []call{
			{kind: 'd', txn: 1, page: 6, root: 4, op: killOf("x", 1)},
			{kind: 'd', txn: 1, page: 1, op: put(0, "a")},
			{kind: 'd', txn: 1, page: 2, op: kill(0, 1)},
			{kind: 'd', txn: 1, page: 3, root: 3, op: putOf("c")},
			{kind: 'd', txn: 1, page: 2, op: put(1, "z")},
		} {
			x.ask(t, c, api.OK)
		}
		for _, c := range calls {
			x.ask(t, c, api.OK)
		}
		if what == "a killed cell is awake" {
			// The cell that was put is gone, too: it is behind the Kill.
			x.ask(t, call{kind: 's', images: []api.Image{image(2, heap(cell("old"), cell("z")))}}, api.OK)
		}
		point := x.m.txns[1].deeds[0].lsn
		x.ask(t, call{kind: 'k', txn: 1}, errForm)
		x.ask(t, call{kind: 'k', txn: 1, point: point}, errForm)
		x.ask(t, call{kind: 'a', txn: 1}, errForm)
		x.ask(t, call{kind: 'k', txn: 1, point: x.m.txns[1].deeds[3].lsn}, api.OK)
		agreesInLog(t, func() string { return what }, x.d, x.k, x.m)
	}
}

// P14.6: an entry is taken back in the leaf in which it lies by then, and what is in the log says so.
func TestBackAfterSplit(t *testing.T) {
	x := newStand(t)
	for _, c := range []call{
		{kind: 'd', txn: 1, page: 3, root: 3, op: putOf("c")},
		{kind: 'd', txn: 2, page: 3, root: 3, op: putOf("a")},
		{kind: 'd', txn: 1, page: 3, root: 3, op: killOf("b", 1)},
		{kind: 's', images: []api.Image{image(3, inner(7, childCell("b", 8))), image(7, leaf(8, cell("a"))), image(8, leaf(0, dead(1, "b"), cell("c"), dead(99, "d")))}},
		{kind: 'd', txn: 2, page: 8, root: 3, op: putOf("cc")},
		{kind: 'a', txn: 1},
	} {
		x.ask(t, c, api.OK)
	}
	reads(t, x.k, 7, leaf(8, cell("a")))
	reads(t, x.k, 8, leaf(0, cell("b"), cell("cc"), dead(99, "d")))
	x.ask(t, call{kind: 'k', txn: 2}, api.OK)
	reads(t, x.k, 7, leaf(8))
	reads(t, x.k, 8, leaf(0, cell("b"), dead(99, "d")))
	agreesInLog(t, func() string { return "" }, x.d, x.k, x.m)
}

// P14.7: what a Commit answers OK lasts, and what an Abort has taken back is not there, whatever a cut keeps.
func TestEnds(t *testing.T) {
	for _, kept := range []bool{false, true} {
		for _, end := range []byte{'c', 'a'} {
			x := newStand(t)
			x.ask(t, call{kind: 'd', txn: 1, page: 1, op: put(0, "a")}, api.OK)
			x.ask(t, call{kind: 'd', txn: 2, page: 1, op: put(1, "b")}, api.OK)
			x.ask(t, call{kind: end, txn: 1}, api.OK)
			if end == 'c' {
				// The RecCommit lasts; the RecEnd need not.
				l := x.k.Log()
				if last := x.m.records[len(x.m.records)-1]; l.Durable() != last.LSN {
					t.Fatalf("Durable %d, want %d", l.Durable(), last.LSN)
				}
			}
			x.d.Cut(slices.Repeat([]bool{kept}, x.d.Pending())...)
			k := opened(t, x.d, 8)
			// Nothing of what was done ahead of an Abort has been flushed: not even the Shape.
			want := api.Page{}
			if end == 'c' {
				want = heap(cell("a"))
			}
			reads(t, k, 1, want)
			if len(k.Lives()) != 0 {
				t.Fatalf("Lives behind a restart: %d", k.Lives())
			}
		}
	}
}

// counted are the operations that a call does.
func counted(d *disk.Disk, do func()) api.Counts {
	from := d.Counts()
	do()
	to := d.Counts()
	return api.Counts{Reads: to.Reads - from.Reads, Writes: to.Writes - from.Writes, Syncs: to.Syncs - from.Syncs}
}

// P14.8: a checkpoint where nobody lives empties the log; else it is told from where a restart is to begin.
func TestCheck(t *testing.T) {
	x := newStand(t)
	x.ask(t, call{kind: 'd', txn: 2, page: 1, op: put(0, "a")}, api.OK)
	at := x.k.Log().End()
	x.ask(t, call{kind: 'x'}, api.OK)
	l := x.k.Log()
	if l.Check() != at || l.Durable() != l.End() || l.Base() != 1 || len(x.k.pool.Dirty()) != 0 || x.d.Pending() != 0 {
		t.Fatalf("Check %d, want %d; Durable %d, End %d, dirty %v", l.Check(), at, l.Durable(), l.End(), x.k.pool.Dirty())
	}
	for number, p := range x.m.pages[1:] {
		if got := x.d.Image()[(leastLog+1+number)*size:][:size]; string(got) != string(written(t, p)) {
			t.Fatalf("the page %d lasts otherwise", number+1)
		}
	}
	// Where nothing is dirty: the record, and the mark.
	if got := counted(x.d, func() { x.ask(t, call{kind: 'x'}, api.OK) }); got != (api.Counts{Writes: 2, Syncs: 2}) {
		t.Fatalf("%+v were done", got)
	}
	x.ask(t, call{kind: 'd', txn: 2, page: 1, op: put(1, "b")}, api.OK)
	x.ask(t, call{kind: 'a', txn: 2}, api.OK)
	x.ask(t, call{kind: 'c', txn: 1}, api.OK)
	end := l.End()
	x.ask(t, call{kind: 'x'}, api.OK)
	if l := x.k.Log(); l.Base() != end || l.End() != end || l.Check() != 0 || l.Kept() != 3 || x.d.Pending() != 0 {
		t.Fatalf("Base %d, End %d, Check %d, Kept %d", l.Base(), l.End(), l.Check(), l.Kept())
	}
	x.d.Cut()
	k := opened(t, x.d, 8)
	reads(t, k, 1, heap())
	if got := begins(t, k); got != 3 {
		t.Fatalf("Begin: %d", got)
	}
}

// P14.8: where the log has no room for a checkpoint the pages are written all the same.
func TestCheckFull(t *testing.T) {
	x := newStand(t)
	x.fills(t, 80+13)
	x.ask(t, call{kind: 'x'}, errFull)
	if len(x.k.pool.Dirty()) != 0 {
		t.Fatalf("dirty: %v", x.k.pool.Dirty())
	}
	x.ask(t, call{kind: 'b'}, errFull)
	x.ask(t, call{kind: 'c', txn: 1}, api.OK)
	x.ask(t, call{kind: 'a', txn: 2}, api.OK)
	x.ask(t, call{kind: 'x'}, api.OK)
	x.ask(t, call{kind: 'b'}, api.OK)
}

// P14.9: which pages are in use.
func TestUse(t *testing.T) {
	x := standOf(t, leastLog, 5, leastFrames)
	for _, c := range []struct {
		call call
		want api.Errno
	}{
		{call{kind: 'f', n: -1}, errArg}, {call{kind: 'f', n: math.MinInt}, errArg}, {call{kind: 'f', n: 6}, errFull}, {call{kind: 'f', n: math.MaxInt}, errFull}, {call{kind: 'f'}, api.OK},
		{call{kind: 'u'}, api.OK}, {call{kind: 'u', pages: []uint32{0}}, errRange}, {call{kind: 'u', pages: []uint32{1, 6}}, errRange}, {call{kind: 'u', pages: []uint32{greatest, 2}}, errRange},
		{call{kind: 'u', pages: []uint32{4, 2, 4}}, api.OK}, {call{kind: 'f', n: 4}, errFull}, {call{kind: 'f', n: 2}, api.OK}, {call{kind: 'f', n: 1}, api.OK}, {call{kind: 'f', n: 1}, errFull}, {call{kind: 'f', n: 0}, api.OK},
		{call{kind: 'r', pages: []uint32{0, 5, 6, greatest, 5, 2}}, api.OK}, {call{kind: 'r'}, api.OK}, {call{kind: 'u', pages: []uint32{2}}, api.OK}, {call{kind: 'u', pages: []uint32{2}}, api.OK}, {call{kind: 'f', n: 1}, api.OK}, {call{kind: 'f', n: 1}, errFull},
		{call{kind: 'r', pages: []uint32{1, 2, 3, 4, 5}}, api.OK}, {call{kind: 'f', n: 5}, api.OK},
	} {
		x.ask(t, c.call, c.want)
	}
	// What is in use is kept in memory alone, and what is done to pages plays no part.
	x.ask(t, call{kind: 's', images: []api.Image{image(1, heap())}}, api.OK)
	x.ask(t, call{kind: 'x'}, api.OK)
	k := opened(t, x.d, 8)
	if l, e := k.Fresh(5); !slices.Equal(l, []uint32{1, 2, 3, 4, 5}) || e != api.OK {
		t.Fatalf("Fresh(5): %d, %d", l, int(e))
	}
}

// P14.3: Read is the pool's Get.
func TestRead(t *testing.T) {
	x := newStand(t)
	for _, number := range []uint32{0, 9, 10, greatest} {
		if p, e := x.k.Read(number); !alike(p, api.Page{}) || e != errRange {
			t.Fatalf("Read(%d): %s, %d", number, shown(p), int(e))
		}
	}
	reads(t, x.k, 8, api.Page{})
	d := formatted(t, leastLog, 3)
	is(t, "Write", d.Write(leastLog+2, slices.Repeat([]byte{7}, size)), api.OK)
	k := opened(t, d, 8)
	if p, e := k.Read(2); !alike(p, api.Page{}) || e != errForm {
		t.Fatalf("Read(2): %s, %d", shown(p), int(e))
	}
	txn := begins(t, k)
	is(t, "Do", k.Do(txn, 2, 0, put(0, "a")), errForm)
	reads(t, k, 3, api.Page{})
}

// allCalls are calls of all kinds, right ones.
func allCalls() []call {
	return []call{
		{kind: 'b'}, {kind: 'd', txn: 1, page: 1, op: put(0, "a")}, {kind: 'd'}, {kind: 's', images: []api.Image{image(1, heap(cell("z")))}}, {kind: 's'}, {kind: 'k', txn: 1}, {kind: 'k'}, {kind: 'c', txn: 1}, {kind: 'c'}, {kind: 'a', txn: 1}, {kind: 'a'}, {kind: 'x'},
		{kind: 'u', pages: []uint32{1}}, {kind: 'u'}, {kind: 'u', pages: []uint32{99}}, {kind: 'f', n: 1}, {kind: 'f', n: -1}, {kind: 'f', n: 99}, {kind: 'f'},
	}
}

// isDead asks that all calls answer ErrDark.
func isDead(t *testing.T, k *Kernel) {
	t.Helper()
	for _, c := range allCalls() {
		if a := k.call(c); !a.same(answer{e: errDark}) {
			t.Fatalf("%v of a dead kernel: %+v", c, a)
		}
	}
	for number := range uint32(4) {
		if p, e := k.Read(number); !alike(p, api.Page{}) || e != errDark {
			t.Fatalf("Read(%d) of a dead kernel: %s, %d", number, shown(p), int(e))
		}
	}
	k.Release([]uint32{1, 99})
}

// P14.10: no kernel.
func TestNone(t *testing.T) {
	for _, k := range []*Kernel{nil, new(Kernel)} {
		isDead(t, k)
		if k.Pages() != 0 || k.Live(0) || k.Live(1) || len(k.Lives()) != 0 || k.Point(0) != 0 || k.Point(1) != 0 || k.Log() != nil {
			t.Fatalf("no kernel tells something")
		}
	}
}

// P14.10, Words: once the disk has answered ErrDark all calls do, though it has power again; and nothing else has changed.
func TestDead(t *testing.T) {
	deaths := map[byte]int{}
	// A Shape of more pages than there are frames.
	all := call{kind: 's'}
	for number := uint32(9); number < 20; number++ {
		all.images = append(all.images, image(number, heap(cell("m"), cell("n"))))
	}
	for i, c := range append(allCalls(), call{kind: 'R', page: 2}, call{kind: 'R', page: 20}, call{kind: 'd', txn: 1, page: 20, op: put(0, "a")}, call{kind: 'd', txn: 1, page: 3, root: 3, op: putOf("a")}, call{kind: 'k', txn: 2}, call{kind: 'a', txn: 2}, call{kind: 'k', txn: 3}, call{kind: 'a', txn: 3}, call{kind: 'c', txn: 3}, all) {
		for trip := range 200 {
			d := formatted(t, leastLog, 20)
			k := opened(t, d, leastFrames)
			shapes(t, k, plots()...)
			begins(t, k)
			begins(t, k)
			does(t, k, 1, 2, put(1, "b"))
			does(t, k, 2, 2, kill(3, 2))
			is(t, "Do", k.Do(2, 3, 3, putOf("e")), api.OK)
			does(t, k, 2, 1, put(0, "z"))
			// The transaction 3 does something on more pages than there are frames.
			begins(t, k)
			for number := uint32(9); number < 20; number++ {
				shapes(t, k, image(number, heap()))
				does(t, k, 3, number, put(0, "m"))
			}
			many := k.Point(3)
			is(t, "Use", k.Use([]uint32{3}), api.OK)
			d.Trip(trip)
			var e api.Errno
			if c.kind == 'R' {
				var p api.Page
				if p, e = k.Read(c.page); e != api.OK && !alike(p, api.Page{}) {
					t.Fatalf("%v: %s beside %d", c, shown(p), int(e))
				}
			} else {
				a := k.call(c)
				if e = a.e; e == errDark && !a.same(answer{e: errDark}) {
					t.Fatalf("%v: %+v", c, a)
				}
			}
			if d.Dark() != (e == errDark) {
				t.Fatalf("call %d, %v, trip %d: %d, dark %v", i, c, trip, int(e), d.Dark())
			}
			if e != errDark {
				break
			}
			deaths[c.kind]++
			if !slices.Equal(k.Lives(), []uint32{1, 2, 3}) || k.Point(3) != many || k.Point(1) == 0 || k.Point(2) <= k.Point(1) || !k.Live(1) || k.Live(4) || k.Pages() != 20 || k.Log() == nil {
				t.Fatalf("%v, trip %d: Lives %d, Points %d, %d, Pages %d", c, trip, k.Lives(), k.Point(1), k.Point(2), k.Pages())
			}
			isDead(t, k)
			d.Cut()
			isDead(t, k)
			// A new kernel has all of it settled.
			opened(t, d, 8)
		}
	}
	for _, kind := range "Rdskcax" {
		if deaths[byte(kind)] == 0 {
			t.Errorf("no death by %c: not a test", kind)
		}
	}
}
