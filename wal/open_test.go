package wal

import (
	"bytes"
	"encoding/binary"
	"math"
	"slices"
	"testing"

	"cadastre/api"
	"cadastre/disk"
)

// P10.2: no disk; a disk of which no sector can be read has that error.
func TestOpenNone(t *testing.T) {
	refuses(t, nil, api.ErrArg)
	refuses(t, &disk.Disk{}, api.ErrRange)
	for _, sectors := range []int{1, 2, 16, 17, 100} {
		d := fresh(t, sectors)
		does(t, d, api.Counts{Reads: 1}, func() { refuses(t, d, api.ErrForm) })
		d.Trip(0)
		refuses(t, d, api.ErrDark)
		refuses(t, d, api.ErrDark)
	}
}

// masterIsRight tells, by the chapter's words, whether a sector is a master that is right on a disk of so many sectors.
func masterIsRight(b []byte, sectors int) bool {
	n, base := binary.LittleEndian.Uint32(b[8:]), binary.LittleEndian.Uint64(b[12:])
	return string(b[:8]) == "cadastre" && n >= 16 && int64(n) < int64(sectors) && base >= 1 && base <= 1<<62 && b[32] <= 1 && bytes.Count(b[33:], []byte{0}) == 512-33
}

// opensMaster asks what Open answers of an empty log with these bytes as its master.
func opensMaster(t *testing.T, b []byte, sectors int) bool {
	t.Helper()
	image := make([]byte, sectors*size)
	copy(image, b)
	d, _ := disk.Load(image)
	if !masterIsRight(b, sectors) {
		does(t, d, api.Counts{Reads: 1}, func() { refuses(t, d, api.ErrForm) })
		return false
	}
	if binary.LittleEndian.Uint64(b[20:]) != 0 {
		refuses(t, d, api.ErrForm) // there is no record that check could be
		return false
	}
	n, base := int(binary.LittleEndian.Uint32(b[8:])), binary.LittleEndian.Uint64(b[12:])
	l := opens(t, d)
	tells(t, l, facts{base: base, end: base, durable: base, kept: binary.LittleEndian.Uint32(b[28:]), room: int(min(uint64(n*510), 1<<62-base)), sectors: n})
	want := bytes.Clone(b)
	want[32] = 0
	lasts(t, d, append([][]byte{want}, sectorsOf(n, nil)...)...)
	return true
}

// P10.2: the master is right, or Open answers ErrForm: each of its bytes changed.
func TestMasterBytesChanged(t *testing.T) {
	right, wrong := 0, 0
	for _, from := range [][]byte{masterWith(16, 1, 0, 0, 0), masterWith(17, 1<<62-1, 0, math.MaxUint32, 1), masterWith(30, 0x1122334455667788, 0, 5, 0), masterWith(299, 256, 0, 1<<31, 1)} {
		for at := range from {
			changes := []byte{1, 128, 255}
			if at < 40 {
				changes = []byte{0, 1, 2, 3, 16, 43, 44, 64, 127, 128, 255, from[at] + 1, from[at] ^ 1, from[at] ^ 32, from[at] ^ 128}
			}
			for _, x := range changes {
				b := bytes.Clone(from)
				b[at] = x
				if opensMaster(t, b, 300) {
					right++
				} else {
					wrong++
				}
			}
		}
	}
	if right < 300 || wrong < 5000 {
		t.Errorf("%d right, %d wrong: not a test", right, wrong)
	}
}

// P10.2: the ends of n, of base, of wiped, on disks of several sizes.
func TestMasterEnds(t *testing.T) {
	right := 0
	for _, sectors := range []int{1, 15, 16, 17, 18, 256, 257, 258, 259} {
		for _, n := range []uint32{0, 1, 14, 15, 16, 17, 18, 255, 256, 257, 258, 8191, 8192, 1 << 16, 1 << 31, 1<<31 + 16, math.MaxUint32 - 15, math.MaxUint32} {
			for _, base := range []uint64{0, 1, 2, 1<<32 - 1, 1 << 32, 1<<62 - 1, 1 << 62, 1<<62 + 1, 1 << 63, math.MaxUint64} {
				for _, wiped := range []byte{0, 1, 2, 255} {
					if opensMaster(t, masterWith(n, base, 0, 9, wiped), sectors) {
						right++
					}
				}
			}
		}
	}
	if right < 100 {
		t.Errorf("%d right: not a test", right)
	}
}

// reading is a log as it stands on a disk, and what is to be read of it.
type reading struct {
	name    string
	sectors [][]byte // the first of the log's; noughts behind them
	want    []api.Record
	writes  int // how many sectors have other bytes behind Open
}

// readings are logs of 16 sectors.
func readings() []reading {
	a, b, c, x := sized(100, 1), sized(410, 2), sized(510, 3), sized(700, 4)
	long, tiny := sized(8160, 5), begin(6)
	full := func(r ...api.Record) [][]byte {
		s := sectorsOf(16, streamOf(r...))
		return s[:(len(streamOf(r...))+logBytes-1)/logBytes]
	}
	halves := func(from, to int) []byte { return streamOf(x)[from:to] }
	return []reading{
		{"nothing", nil, nil, 0},
		{"a record", full(a), []api.Record{a}, 0},
		{"a full sector", full(a, b), []api.Record{a, b}, 0},
		{"a full sector of one record", full(c), []api.Record{c}, 0},
		{"a record over two sectors", full(a, x), []api.Record{a, x}, 0},
		{"a record over all sectors", full(long), []api.Record{long}, 0},
		{"all sectors full", full(c, c, c, c, c, c, c, c, c, c, c, c, c, c, c, c), slices.Repeat([]api.Record{c}, 16), 0},
		{"a record that ends too soon", [][]byte{holding(streamOf(a)[:99])}, nil, 1},
		{"one byte", [][]byte{holding([]byte{4})}, nil, 1},
		{"a length alone", [][]byte{holding([]byte{4, 0})}, nil, 1},
		{"a length of all that may be", [][]byte{holding([]byte{0, 0x40, 77})}, nil, 1},
		{"a record and a byte", [][]byte{holding(append(streamOf(a), 9))}, []api.Record{a}, 1},
		{"a record and its beginning again", [][]byte{holding(append(streamOf(a), streamOf(a)[:50]...))}, []api.Record{a}, 1},
		{"a full sector that ends within a record", [][]byte{holding(halves(0, 510))}, nil, 1},
		{"two full sectors that end within a record", [][]byte{holding(append(streamOf(a), halves(0, 410)...)), holding(append(halves(410, 700), halves(0, 220)...))}, []api.Record{a, x}, 1},
		{"a record whose end is lost, with another behind", append([][]byte{holding(append(streamOf(a), halves(0, 410)...)), make([]byte, size)}, full(a)...), []api.Record{a}, 2},
		{"a record behind a sector that is not full", append(full(a), full(b)...), []api.Record{a}, 1},
		{"a record behind a nought sector", append([][]byte{make([]byte, size)}, full(b)...), nil, 1},
		{"a record behind a full one and a nought sector", slices.Concat(full(c), [][]byte{make([]byte, size)}, full(b)), []api.Record{c}, 1},
		{"a record that goes on in a sector that is not full, with more behind", [][]byte{holding(append(streamOf(a), halves(0, 410)...)), holding(halves(410, 690)), holding(halves(690, 700))}, []api.Record{a}, 3},
		{"a sector of 509, and its record's last byte behind it", [][]byte{holding(streamOf(c)[:509]), holding(streamOf(c)[509:])}, nil, 2},
		{"full sectors behind one that is not", slices.Concat(full(tiny), full(c, c, c), full(c, c)), []api.Record{tiny}, 5},
		{"bytes behind those that are used", [][]byte{sectorWith(4, append(streamOf(tiny), streamOf(tiny)...))}, []api.Record{tiny}, 1},
		{"a byte at the sector's end", [][]byte{sectorWith(100, append(streamOf(a), append(make([]byte, 409), 1)...))}, []api.Record{a}, 1},
		{"bytes of none that are used", [][]byte{sectorWith(0, streamOf(a))}, nil, 1},
		{"bytes of none that are used, behind a full sector", append(full(c), sectorWith(0, streamOf(a))), []api.Record{c}, 1},
		{"bytes behind those that are used, ahead of others", [][]byte{sectorWith(4, append(streamOf(tiny), streamOf(c)[4:]...)), holding(streamOf(tiny))}, []api.Record{tiny}, 2},
		{"a last sector that is not reached", append(slices.Repeat([][]byte{make([]byte, size)}, 15), holding(streamOf(tiny))), nil, 1},
		{"no form in a sector that is not read", append(full(a), holding([]byte{1, 0, 0}), holding([]byte{255, 255})), []api.Record{a}, 2},
		{"a record over all sectors, without its last byte", append(full(long)[:15], holding(streamOf(long)[7650:8159])), nil, 16},
		{"a record that goes on beyond the sectors", sectorsOf(16, streamOf(sized(8161, 1))[:8160]), nil, 16},
		{"records, and one that goes on beyond the sectors", sectorsOf(16, streamOf(a, b, sized(8000, 1))[:8160]), []api.Record{a, b}, 15},
	}
}

// standing is a disk on which the reading's log stands, with two pages behind it.
func (r reading) standing(t *testing.T, master []byte) *disk.Disk {
	t.Helper()
	noughts := slices.Repeat([][]byte{make([]byte, size)}, 16-len(r.sectors))
	return diskOf(t, slices.Concat([][]byte{master}, r.sectors, noughts, pages())...)
}

// P10.2: which records are read, and that the sectors hold just them behind it; each is written only if it has other bytes.
func TestOpenReads(t *testing.T) {
	for _, r := range readings() {
		t.Run(r.name, func(t *testing.T) {
			for _, base := range []uint64{1, 1000, 1 << 61} {
				master := masterWith(16, base, 0, 300, 0)
				d := r.standing(t, master)
				want := api.Counts{Reads: 17, Writes: r.writes, Syncs: min(r.writes, 1)}
				stream := streamOf(r.want...)
				end := base + uint64(len(stream))
				tellsOf := facts{base: base, end: end, durable: end, kept: 300, room: 8160 - len(stream), sectors: 16}
				does(t, d, want, func() { tells(t, opens(t, d, placed(base, r.want...)...), tellsOf) })
				lasts(t, d, slices.Concat([][]byte{master}, sectorsOf(16, stream), pages())...)
				does(t, d, api.Counts{Reads: 17}, func() { tells(t, opens(t, d, placed(base, r.want...)...), tellsOf) })
			}
		})
	}
}

// P10.2: what was opened goes on where its stream ends.
func TestOpenGoesOn(t *testing.T) {
	for _, r := range readings() {
		t.Run(r.name, func(t *testing.T) {
			d := r.standing(t, masterWith(16, 50, 0, 0, 0))
			l := opens(t, d, placed(50, r.want...)...)
			all := slices.Clone(r.want)
			for _, n := range []int{5, 510, 1000, 4} {
				if more := sized(n, n); n <= l.Room() {
					appends(t, l, more, l.End())
					all = append(all, more)
				}
				is(t, "Flush", l.Flush(), api.OK)
				lasts(t, d, slices.Concat([][]byte{masterWith(16, 50, 0, 0, 0)}, sectorsOf(16, streamOf(all...)), pages())...)
			}
			opens(t, d, placed(50, all...)...)
		})
	}
}

// P10.2: each beginning of some records' bytes is read as those of them that are whole.
func TestOpenBeginnings(t *testing.T) {
	var records []api.Record
	for i, n := range []int{5, 4, 200, 301, 9, 501, 4, 4, 6, 400, 100} {
		records = append(records, sized(n, i))
	}
	stream := streamOf(records...)
	whole, end := 0, 0
	for cut := range len(stream) + 1 {
		if next := len(bytesOf(records[min(whole, len(records)-1)])); whole < len(records) && cut == end+next {
			whole, end = whole+1, cut
		}
		d := diskWith(t, 16, 7, stream[:cut])
		opens(t, d, placed(7, records[:whole]...)...)
		lasts(t, d, slices.Concat([][]byte{masterWith(16, 7, 0, 0, 0)}, sectorsOf(16, stream[:end]), pages())...)
	}
}

// P10.2: a sector that says that more than 510 bytes are used, wherever it stands; nothing is written.
func TestOpenUsed(t *testing.T) {
	for place := range 16 {
		for _, used := range []int{509, 510, 511, 512, 513, 766, 1 << 15, 65535} {
			for _, ahead := range []int{0, 4, 510, 2000, 8160} {
				stream := streamOf(sized(max(4, ahead), 1))[:ahead]
				sectors := sectorsOf(16, stream)
				sectors[place] = sectorWith(used, sectors[place][2:])
				d := diskOf(t, slices.Concat([][]byte{masterWith(16, 1, 0, 0, 0)}, sectors, pages())...)
				if used > 510 {
					from, image := d.Counts(), d.Image()
					refuses(t, d, api.ErrForm)
					if got := done(from, d.Counts()); got.Writes+got.Syncs != 0 || !bytes.Equal(d.Image(), image) {
						t.Fatalf("sector %d of %d used: %+v were done", place, used, got)
					}
				} else if _, _, e := Open(d); used == 510 && ahead == 8160 && e != api.OK {
					t.Fatalf("sector %d of %d used: %d", place, used, int(e))
				}
			}
		}
	}
	// A sector behind those of the log may say what it wants.
	page := bytes.Repeat([]byte{255}, size)
	d := diskOf(t, slices.Concat([][]byte{masterWith(16, 1, 0, 0, 0)}, sectorsOf(16, nil), [][]byte{page})...)
	opens(t, d)
	lasts(t, d, slices.Concat([][]byte{masterWith(16, 1, 0, 0, 0)}, sectorsOf(16, nil), [][]byte{page})...)
}

// P10.2: bytes that are no record's, where a record is to be; nothing is written.
func TestOpenForm(t *testing.T) {
	for _, ahead := range []int{0, 4, 100, 506, 508, 509, 510, 1018} {
		for _, wrong := range []string{"\x00\x00", "\x01\x00", "\x02\x00", "\x03\x00\x01", "\x04\x00\x01\x00", "\x05\x00\x01\xac\x00", "\x04\x00\x09\x01", "\x01\x40", "\xff\xff", "\x04\x00\x00\x01", "\x05\x00\x01\x01\x00"} {
			var stream []byte
			if ahead > 0 {
				stream = streamOf(sized(ahead, 1))
			}
			for _, behind := range [][]byte{nil, streamOf(begin(1)), make([]byte, 600)} {
				all := slices.Concat(stream, []byte(wrong), behind)
				d := diskWith(t, 16, 1, all)
				from, image := d.Counts(), d.Image()
				refuses(t, d, api.ErrForm)
				if got := done(from, d.Counts()); got.Writes+got.Syncs != 0 || !bytes.Equal(d.Image(), image) {
					t.Fatalf("%x behind %d bytes: %+v were done", wrong, ahead, got)
				}
			}
		}
	}
}

// P10.2: check is 0, or the LSN of a record that is read.
func TestOpenCheck(t *testing.T) {
	for _, base := range []uint64{1, 2, 600, 1 << 62} {
		records := placed(base, sized(100, 1), sized(410, 2), sized(4, 3), sized(900, 4))
		stream := append(streamOf(records...), streamOf(begin(5))[:3]...) // the last one is cut off
		right := map[uint64]bool{0: true}
		for _, r := range records {
			right[r.LSN] = true
		}
		checks := []uint64{0, 1, base - 1, 1 << 63, math.MaxUint64}
		for at := range len(stream) + 10 {
			checks = append(checks, base+uint64(at), uint64(at))
		}
		for _, check := range checks {
			d := diskOf(t, append([][]byte{masterWith(16, base, check, 0, 0)}, append(sectorsOf(16, stream), pages()...)...)...)
			if !right[check] {
				from := d.Counts()
				refuses(t, d, api.ErrForm)
				if got := done(from, d.Counts()); got.Writes+got.Syncs != 0 {
					t.Fatalf("check %d: %+v were done", check, got)
				}
				continue
			}
			l := opens(t, d, records...)
			if l.Check() != check {
				t.Fatalf("Check %d, want %d", l.Check(), check)
			}
			lasts(t, d, append([][]byte{masterWith(16, base, check, 0, 0)}, sectorsOf(16, streamOf(records...))...)...)
		}
	}
}

// P10.2: a Sync, if something was written, or the cache is not empty; what was read lasts behind Open.
func TestOpenSync(t *testing.T) {
	a, b := sized(600, 1), sized(700, 2)
	for _, cached := range []bool{false, true} {
		for _, spoilt := range []bool{false, true} {
			d := diskWith(t, 16, 1, streamOf(a))
			stream := streamOf(a)
			if cached {
				stream = streamOf(a, b)
			}
			if spoilt {
				stream = append(stream, 9)
			}
			was := sectorsOf(16, streamOf(a))
			for place, s := range sectorsOf(16, stream) {
				if !bytes.Equal(s, was[place]) {
					is(t, "Write", d.Write(1+place, s), api.OK)
				}
			}
			if !cached && spoilt {
				is(t, "Sync", d.Sync(), api.OK)
			}
			records, want := placed(1, a), api.Counts{Reads: 17}
			if cached {
				records, want.Syncs = placed(1, a, b), 1
			}
			if spoilt {
				want.Writes, want.Syncs = 1, 1
			}
			does(t, d, want, func() { opens(t, d, records...) })
			if d.Pending() != 0 {
				t.Fatalf("%d in the cache behind Open", d.Pending())
			}
			d.Cut()
			opens(t, d, records...)
		}
	}
	// A page in the cache is enough.
	d := diskWith(t, 16, 1, streamOf(a))
	is(t, "Write", d.Write(18, make([]byte, size)), api.OK)
	does(t, d, api.Counts{Reads: 17, Syncs: 1}, func() { opens(t, d, placed(1, a)...) })
	lasts(t, d, slices.Concat([][]byte{masterWith(16, 1, 0, 0, 0)}, sectorsOf(16, streamOf(a)), pages()[:1], [][]byte{make([]byte, size)})...)
}

// P10.2: a master that says wiped: the log is emptied, whatever stood there, and then the master says that it is.
func TestOpenWiped(t *testing.T) {
	for _, r := range readings() {
		d := r.standing(t, masterWith(16, 5000, 0, 44, 1))
		from := d.Counts()
		l := opens(t, d)
		if got := done(from, d.Counts()); got.Syncs != 2 {
			t.Fatalf("%s: %+v were done", r.name, got)
		}
		tells(t, l, facts{base: 5000, end: 5000, durable: 5000, kept: 44, room: 8160, sectors: 16})
		lasts(t, d, slices.Concat([][]byte{masterWith(16, 5000, 0, 44, 0)}, sectorsOf(16, nil), pages())...)
		appends(t, l, sized(600, 1), 5000)
		is(t, "Flush", l.Flush(), api.OK)
		opens(t, d, placed(5000, sized(600, 1))...)
	}
	// What no record could be is emptied, too.
	spoilt := slices.Repeat([][]byte{bytes.Repeat([]byte{255}, size)}, 17)
	d := diskOf(t, append([][]byte{masterWith(17, 9, 0, 1, 1)}, spoilt...)...)
	tells(t, opens(t, d), facts{base: 9, end: 9, durable: 9, kept: 1, room: 17 * 510, sectors: 17})
	lasts(t, d, append([][]byte{masterWith(17, 9, 0, 1, 0)}, sectorsOf(17, nil)...)...)
}

// P10.2: a wiped log has no record that its check could be; it was emptied ahead of that.
func TestOpenWipedCheck(t *testing.T) {
	records := placed(1, sized(600, 1), begin(2))
	d := diskOf(t, append([][]byte{masterWith(16, 1, 601, 3, 1)}, append(sectorsOf(16, streamOf(records...)), pages()...)...)...)
	refuses(t, d, api.ErrForm)
	lasts(t, d, slices.Concat([][]byte{masterWith(16, 1, 601, 3, 0)}, sectorsOf(16, nil), pages())...)
	refuses(t, d, api.ErrForm)
}

// P10.2: the order in which a wiped log is emptied: the sectors last as noughts ahead of what the master says.
func TestOpenWipedOrder(t *testing.T) {
	records := placed(1, sized(8000, 1))
	was := slices.Concat([][]byte{masterWith(16, 9000, 0, 3, 1)}, sectorsOf(16, streamOf(records...)), pages())
	emptied := slices.Concat([][]byte{was[0]}, sectorsOf(16, nil), pages())
	ready := slices.Concat([][]byte{masterWith(16, 9000, 0, 3, 0)}, emptied[1:])
	for trip := 0; ; trip++ {
		d := diskOf(t, was...)
		d.Trip(trip)
		_, _, e := Open(d)
		if e == api.OK {
			lasts(t, d, ready...)
			break
		}
		is(t, "Open", e, api.ErrDark)
		from := d.Counts()
		switch {
		case from.Syncs == 0:
			lasts(t, d, was...)
		case from.Syncs == 1:
			lasts(t, d, emptied...)
		default:
			lasts(t, d, ready...)
		}
		if from.Syncs == 1 && d.Pending() > 1 || from.Syncs == 2 && d.Pending() > 0 {
			t.Fatalf("a trip of %d: %d in the cache", trip, d.Pending())
		}
		d.Cut()
		tells(t, opens(t, d), facts{base: 9000, end: 9000, durable: 9000, kept: 3, room: 8160, sectors: 16})
	}
}

// P10.2: the disk's error comes up from each operation, with nothing beside it.
func TestOpenDark(t *testing.T) {
	for _, r := range readings() {
		for _, wiped := range []byte{0, 1} {
			for trip := 0; ; trip++ {
				d := r.standing(t, masterWith(16, 1, 0, 0, wiped))
				d.Trip(trip)
				l, records, e := Open(d)
				if e == api.OK {
					if trip < 17 || l == nil {
						t.Fatalf("%s: Open was done by %d operations", r.name, trip)
					}
					break
				}
				if l != nil || len(records) != 0 || e != api.ErrDark {
					t.Fatalf("%s: Open with a trip of %d: %v, %d records, %d", r.name, trip, l, len(records), int(e))
				}
			}
		}
	}
	// A master that is not right, on a disk that is dark from then on.
	d := fresh(t, 20)
	d.Trip(1)
	refuses(t, d, api.ErrForm)
	refuses(t, d, api.ErrDark)
}
