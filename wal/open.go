package wal

import (
	"cadastre/api"
	"cadastre/disk"
	"cadastre/record"
)

// Format makes an empty log of n sectors.
func Format(d *disk.Disk, n int) api.Errno {
	if n < api.MinLog || n >= d.Sectors() {
		return api.ErrArg
	}
	fresh := master{sectors: n, base: 1}
	return inTurn(append(empty(d, n), write(d, masterAt, fresh.sector()), d.Sync)...)
}

// Open reads a log, and cuts off what is not whole.
func Open(d *disk.Disk) (*Log, []api.Record, api.Errno) {
	if d == nil {
		return nil, nil, api.ErrArg
	}
	o := opening{disk: d}
	if e := inTurn(o.readMaster, o.endReset, o.readSectors, o.takeStream, o.takeRecords, o.cutOff); e != api.OK {
		return nil, nil, e
	}
	return o.log(), o.records, api.OK
}

// opening is what an Open has come to.
type opening struct {
	disk    *disk.Disk
	master  master
	sectors []sector
	stream  []byte
	records []api.Record
}

func (o *opening) readMaster() api.Errno {
	var s sector
	if e := inTurn(read(o.disk, masterAt, &s)); e != api.OK {
		return e
	}
	m, right := masterOf(s, o.disk.Sectors())
	if !right {
		return api.ErrForm
	}
	o.master = m
	return api.OK
}

// endReset does what is missing of a Reset that was broken off.
func (o *opening) endReset() api.Errno {
	if !o.master.wiped {
		return api.OK
	}
	return inTurn(wipe(o.disk, o.master, o.master.sectors))
}

func (o *opening) readSectors() api.Errno {
	o.sectors = make([]sector, o.master.sectors)
	var steps []func() api.Errno
	for place := range o.sectors {
		steps = append(steps, read(o.disk, firstAt+place, &o.sectors[place]))
	}
	return inTurn(steps...)
}

// takeStream takes the bytes that stand in the sectors up to the end of the first that is not full.
func (o *opening) takeStream() api.Errno {
	goesOn := true
	for _, s := range o.sectors {
		used := s.used()
		if used > api.LogBytes {
			return api.ErrForm
		}
		if goesOn {
			o.stream = append(o.stream, s[usedBytes:usedBytes+used]...)
		}
		goesOn = goesOn && used == api.LogBytes
	}
	return api.OK
}

// takeRecords takes the records that stand whole in the stream, which ends behind them from then on.
func (o *opening) takeRecords() api.Errno {
	found := o.master.check == 0
	end := 0
	for {
		r, length, e := record.Decode(o.stream[end:])
		if e == api.ErrNone {
			break
		}
		if e != api.OK {
			return e
		}
		r.LSN = o.master.base + uint64(end)
		o.records = append(o.records, r)
		found = found || r.LSN == o.master.check
		end += length
	}
	if !found {
		return api.ErrForm
	}
	o.stream = o.stream[:end]
	return api.OK
}

// cutOff lets the sectors hold just the stream: what stands behind it would be read one day as its end.
func (o *opening) cutOff() api.Errno {
	var steps []func() api.Errno
	for place, was := range o.sectors {
		if to := sectorOf(o.stream, place); to != was {
			steps = append(steps, write(o.disk, firstAt+place, to))
		}
	}
	// What was read may stand in the cache alone, and yet it is to last.
	if len(steps) > 0 || o.disk.Pending() > 0 {
		steps = append(steps, o.disk.Sync)
	}
	return inTurn(steps...)
}

// log is the log that was opened.
func (o *opening) log() *Log {
	end := o.master.base + uint64(len(o.stream))
	l := &Log{disk: o.disk, master: o.master, durable: end, end: end, tail: lastPart(o.stream)}
	l.master.wiped = false
	for _, r := range o.records {
		l.starts = append(l.starts, r.LSN)
	}
	return l
}
