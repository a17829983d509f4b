package wal

import (
	"cadastre/api"
	"cadastre/code"
)

// mark is the text that a master begins with.
const mark = "cadastre"

// master is what the disk's first sector says of the log.
type master struct {
	sectors int
	base    uint64
	check   uint64
	kept    uint32
	wiped   bool // the log is to be emptied
}

// sector makes a master's sector.
func (m master) sector() sector {
	wiped := uint8(0)
	if m.wiped {
		wiped = 1
	}
	w := code.NewWriter()
	w.Raw([]byte(mark))
	w.U32(uint32(m.sectors))
	w.U64(m.base)
	w.U64(m.check)
	w.U32(m.kept)
	w.U8(wiped)
	var s sector
	copy(s[:], w.Bytes())
	return s
}

// masterOf tells the master of a sector, and whether it is right on a disk of so many sectors.
func masterOf(s sector, sectors int) (master, bool) {
	var m master
	from := code.NewReader(s[len(mark):])
	m.sectors = int(from.U32())
	m.base = from.U64()
	m.check = from.U64()
	m.kept = from.U32()
	m.wiped = from.U8() == 1
	right := m.sectors >= api.MinLog && m.sectors < sectors && m.base >= 1 && m.base <= api.LastLSN
	// A sector that is no master's was read as some other one, and that has other bytes.
	return m, right && m.sector() == s
}
