package wal

import (
	"cadastre/api"
	"cadastre/code"
	"cadastre/disk"
)

// Where the master is, and the first of the log's sectors.
const (
	masterAt = 0
	firstAt  = 1
)

// usedBytes are the bytes, ahead of the others, that tell how many of a log's sector are used.
const usedBytes = api.PageSize - api.LogBytes

// sector is a sector's bytes.
type sector [api.PageSize]byte

// used tells how many of its bytes a log's sector says to use; it may say more than there are.
func (s sector) used() int { return int(code.NewReader(s[:usedBytes]).U16()) }

// sectorOf makes the log's sector of a place in the row that holds a stream; noughts, where nothing of the stream stands.
func sectorOf(stream []byte, place int) sector {
	from := min(place*api.LogBytes, len(stream))
	part := stream[from:min(from+api.LogBytes, len(stream))]
	w := code.NewWriter()
	w.U16(uint16(len(part)))
	w.Raw(part)
	var s sector
	copy(s[:], w.Bytes())
	return s
}

// sectorsFor tells how many sectors hold a stream of so many bytes.
func sectorsFor(length uint64) int { return int((length + api.LogBytes - 1) / api.LogBytes) }

// inTurn does one behind the other, until one answers an error.
func inTurn(steps ...func() api.Errno) api.Errno {
	for _, step := range steps {
		if e := step(); e != api.OK {
			return e
		}
	}
	return api.OK
}

// read is what reads a sector.
func read(d *disk.Disk, at int, to *sector) func() api.Errno {
	return func() api.Errno {
		b, e := d.Read(at)
		copy(to[:], b)
		return e
	}
}

// write is what writes a sector.
func write(d *disk.Disk, at int, s sector) func() api.Errno {
	return func() api.Errno { return d.Write(at, s[:]) }
}

// empty is what makes noughts of the log's first sectors, so many of them.
func empty(d *disk.Disk, sectors int) []func() api.Errno {
	var steps []func() api.Errno
	for place := range sectors {
		steps = append(steps, write(d, firstAt+place, sector{}))
	}
	return steps
}

// wipe empties the log's first sectors, and only when that lasts lets the master say that they are.
func wipe(d *disk.Disk, m master, sectors int) func() api.Errno {
	m.wiped = false
	steps := append(empty(d, sectors), d.Sync, write(d, masterAt, m.sector()), d.Sync)
	return func() api.Errno { return inTurn(steps...) }
}
