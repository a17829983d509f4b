package wal

import (
	"bytes"
	"encoding/binary"
	"fmt"
	"slices"
	"testing"

	"cadastre/api"
	"cadastre/disk"
	"cadastre/record"
)

// The numbers that the chapters name, written out, so that nothing of the program is in what the tests want.
const (
	size     = 512
	logBytes = 510
	leastLog = 16
	lastLSN  = 1 << 62
	mostRec  = 16384
)

// The kinds of records that the tests make.
const (
	recBegin  = 1
	recDo     = 2
	recCommit = 5
	recCheck  = 8
)

// picker answers numbers below n that hang on a seed.
func picker(seed uint64) func(n int) int {
	x := seed*0x9E3779B97F4A7C15 + 88172645463325252
	return func(n int) int {
		x ^= x << 13
		x ^= x >> 7
		x ^= x << 17
		return int(x>>20) % n
	}
}

// noise are n bytes that hang on a seed.
func noise(seed uint64, n int) []byte {
	pick := picker(seed)
	b := make([]byte, n)
	for i := range b {
		b[i] = byte(pick(256))
	}
	return b
}

// begin is a record of 4 bytes, if its transaction's number is below 128; of 5, if it is below 16384.
func begin(txn uint32) api.Record { return api.Record{Kind: recBegin, Txn: txn} }

// did is a record with bytes in it.
func did(txn uint32, data string) api.Record {
	return api.Record{Kind: recDo, Txn: txn, Page: 2, Op: api.Op{Kind: 1, Data: []byte(data)}}
}

// groups is a number whose counted form has so many bytes, 1 to 10.
func groups(n, seed int) uint64 {
	if n == 1 {
		return uint64(seed % 128)
	}
	return uint64(1)<<(7*(n-1)) + uint64(seed%100)
}

// sized is a record of n bytes in all, n from 4 to 16384, that hangs on a seed.
func sized(n, seed int) api.Record {
	switch {
	case n == 4:
		return begin(uint32(1 + seed%127))
	case n < 13:
		return api.Record{Kind: recCommit, Txn: uint32(1 + seed%127), Prev: groups(n-4, seed/127)}
	}
	for k := 1; ; k++ {
		ahead := 6 // the length, the kind, no lives, how many are dirty, Next
		if k >= 128 {
			ahead++
		}
		rest := n - ahead - 5*k
		if rest < k {
			panic(fmt.Sprint("no record of ", n, " bytes"))
		}
		if rest > 9*k+4 {
			continue
		}
		next := max(0, rest-9*k)
		r := api.Record{Kind: recCheck, Next: uint32(groups(1+next, seed))}
		rest -= next
		for i := range k {
			take := min(9, rest-(k-i-1))
			rest -= take
			r.Dirty = append(r.Dirty, api.Dirty{Page: 1<<28 + uint32(i), From: groups(take, seed+i)})
		}
		return r
	}
}

// bytesOf are a record's bytes.
func bytesOf(r api.Record) []byte {
	b, e := record.Encode(r)
	if e != api.OK {
		panic(fmt.Sprintf("no record: %+v", r))
	}
	return b
}

// streamOf are records' bytes, one's behind the other's.
func streamOf(records ...api.Record) []byte {
	var b []byte
	for _, r := range records {
		b = append(b, bytesOf(r)...)
	}
	return b
}

// placed are records with the LSNs that they have one behind the other, the first one at an LSN.
func placed(at uint64, records ...api.Record) []api.Record {
	var all []api.Record
	for _, r := range records {
		r.LSN = at
		at += uint64(len(bytesOf(r)))
		all = append(all, r)
	}
	return all
}

// sectorWith is a log's sector that says how many bytes it uses, and then has these.
func sectorWith(used int, b []byte) []byte {
	s := make([]byte, size)
	binary.LittleEndian.PutUint16(s, uint16(used))
	copy(s[2:], b)
	return s
}

// holding is a log's sector that has just these bytes.
func holding(b []byte) []byte { return sectorWith(len(b), b) }

// masterWith is a master's sector.
func masterWith(n uint32, base, check uint64, kept uint32, wiped byte) []byte {
	s := []byte("cadastre")
	s = binary.LittleEndian.AppendUint32(s, n)
	s = binary.LittleEndian.AppendUint64(s, base)
	s = binary.LittleEndian.AppendUint64(s, check)
	s = binary.LittleEndian.AppendUint32(s, kept)
	s = append(s, wiped)
	return append(s, make([]byte, size-len(s))...)
}

// sectorsOf are the n sectors of a log that hold a stream.
func sectorsOf(n int, stream []byte) [][]byte {
	var all [][]byte
	for range n {
		cut := min(logBytes, len(stream))
		all = append(all, holding(stream[:cut]))
		stream = stream[cut:]
	}
	return all
}

// diskOf is a disk of these sectors, that last.
func diskOf(t *testing.T, sectors ...[]byte) *disk.Disk {
	t.Helper()
	d, e := disk.Load(bytes.Join(sectors, nil))
	if e != api.OK {
		t.Fatalf("a disk of %d sectors: %d", len(sectors), int(e))
	}
	return d
}

// diskWith is a disk with a log of n sectors, two pages behind it, and a stream that begins at base.
func diskWith(t *testing.T, n int, base uint64, stream []byte) *disk.Disk {
	t.Helper()
	return diskOf(t, slices.Concat([][]byte{masterWith(uint32(n), base, 0, 0, 0)}, sectorsOf(n, stream), pages())...)
}

// pages are what stands behind the logs of the tests; nothing that a log does may change them.
func pages() [][]byte { return [][]byte{noise(77, size), noise(78, size)} }

// fresh is a disk of noughts.
func fresh(t *testing.T, sectors int) *disk.Disk {
	t.Helper()
	d, e := disk.New(sectors)
	if e != api.OK {
		t.Fatalf("a disk of %d sectors: %d", sectors, int(e))
	}
	return d
}

// formatted is a disk of so many sectors with an empty log of n.
func formatted(t *testing.T, sectors, n int) *disk.Disk {
	t.Helper()
	d := fresh(t, sectors)
	if e := Format(d, n); e != api.OK {
		t.Fatalf("Format of %d sectors with %d: %d", sectors, n, int(e))
	}
	return d
}

// opens opens a log that holds just these records.
func opens(t *testing.T, d *disk.Disk, want ...api.Record) *Log {
	t.Helper()
	l, got, e := Open(d)
	if l == nil || e != api.OK {
		t.Fatalf("Open: %v, %d", l, int(e))
	}
	asksRecords(t, got, want)
	return l
}

// asksRecords asks that records are these, with their LSNs.
func asksRecords(t *testing.T, got, want []api.Record) {
	t.Helper()
	if len(got) != len(want) {
		t.Fatalf("%d records, want %d", len(got), len(want))
	}
	for i := range got {
		if got[i].LSN != want[i].LSN || !bytes.Equal(bytesOf(got[i]), bytesOf(want[i])) {
			t.Fatalf("record %d: %+v, want %+v", i, got[i], want[i])
		}
	}
}

// refuses asks that Open answers an error, and nothing beside it.
func refuses(t *testing.T, d *disk.Disk, want api.Errno) {
	t.Helper()
	if l, records, e := Open(d); l != nil || len(records) != 0 || e != want {
		t.Fatalf("Open: %v, %d records, %d, want %d", l, len(records), int(e), int(want))
	}
}

// appends appends a record, and asks for its LSN.
func appends(t *testing.T, l *Log, r api.Record, want uint64) {
	t.Helper()
	if lsn, e := l.Append(r); lsn != want || e != api.OK {
		t.Fatalf("Append of %d bytes: %d, %d, want %d", len(bytesOf(r)), lsn, int(e), want)
	}
}

// appendsNot asks that Append answers an error, and changes nothing.
func appendsNot(t *testing.T, l *Log, r api.Record, want api.Errno) {
	t.Helper()
	end, room := l.End(), l.Room()
	if lsn, e := l.Append(r); lsn != 0 || e != want {
		t.Fatalf("Append of %+v: %d, %d, want %d", r, lsn, int(e), int(want))
	}
	if l.End() != end || l.Room() != room {
		t.Fatalf("Append that answers %d: End %d, Room %d, were %d, %d", int(want), l.End(), l.Room(), end, room)
	}
}

// is asks what a call answers.
func is(t *testing.T, what string, got, want api.Errno) {
	t.Helper()
	if got != want {
		t.Fatalf("%s: %d, want %d", what, int(got), int(want))
	}
}

// facts are what a log tells of itself.
type facts struct {
	base, end, durable, check uint64
	kept                      uint32
	room, sectors             int
}

func factsOf(l *Log) facts {
	return facts{l.Base(), l.End(), l.Durable(), l.Check(), l.Kept(), l.Room(), l.Sectors()}
}

// tells asks what a log tells of itself.
func tells(t *testing.T, l *Log, want facts) {
	t.Helper()
	if got := factsOf(l); got != want {
		t.Fatalf("the log tells %+v, want %+v", got, want)
	}
}

// lasts asks that these sectors last, from the first one of the disk on.
func lasts(t *testing.T, d *disk.Disk, want ...[]byte) {
	t.Helper()
	image := d.Image()
	for at, b := range want {
		if got := image[at*size : (at+1)*size]; !bytes.Equal(got, b) {
			t.Fatalf("sector %d: %x, want %x", at, bytes.TrimRight(got, "\x00"), bytes.TrimRight(b, "\x00"))
		}
	}
}

// done tells which operations were done between two counts.
func done(from, to api.Counts) api.Counts {
	return api.Counts{Reads: to.Reads - from.Reads, Writes: to.Writes - from.Writes, Syncs: to.Syncs - from.Syncs}
}

// does asks how many operations a call does.
func does(t *testing.T, d *disk.Disk, want api.Counts, call func()) {
	t.Helper()
	from := d.Counts()
	call()
	if got := done(from, d.Counts()); got != want {
		t.Fatalf("%+v were done, want %+v", got, want)
	}
}
