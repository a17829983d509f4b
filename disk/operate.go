package disk

import "cadastre/api"

// has tells whether there is such a sector; a Disk that was not made has none.
func (d *Disk) has(at int) bool { return at >= 0 && at < d.Sectors() }

// operate lets an operation come: OK, if it is to be done, and ErrDark, if the power is gone or goes now.
func (d *Disk) operate() api.Errno {
	if !d.has(0) || d.dark {
		return api.ErrDark
	}
	if d.trip == 0 {
		d.dark, d.trip = true, noTrip
		return api.ErrDark
	}
	if d.trip > 0 {
		d.trip--
	}
	return api.OK
}

// Read tells a sector as it was written last.
func (d *Disk) Read(at int) ([]byte, api.Errno) {
	if !d.has(at) {
		return nil, api.ErrRange
	}
	if e := d.operate(); e != api.OK {
		return nil, e
	}
	d.counts.Reads++
	told := d.lasting[at]
	if place, there := d.newest[at]; there {
		told = d.cache[place].bytes
	}
	return told[:], api.OK
}

// Write puts a sector's bytes into the cache.
func (d *Disk) Write(at int, b []byte) api.Errno {
	if !d.has(at) {
		return api.ErrRange
	}
	if len(b) != api.PageSize {
		return api.ErrArg
	}
	if e := d.operate(); e != api.OK {
		return e
	}
	d.counts.Writes++
	w := write{at: at}
	copy(w.bytes[:], b)
	d.newest[at] = len(d.cache)
	d.cache = append(d.cache, w)
	return api.OK
}

// Sync makes last what is in the cache.
func (d *Disk) Sync() api.Errno {
	if e := d.operate(); e != api.OK {
		return e
	}
	d.counts.Syncs++
	for _, w := range d.cache {
		d.lasting[w.at] = w.bytes
	}
	d.empty()
	return api.OK
}

// Trip lets the power go behind n operations more; never, if n is below 0.
func (d *Disk) Trip(n int) {
	if d.has(0) {
		d.trip = max(n, noTrip)
	}
}

// Cut lets those of the writes in the cache last whose keep is true; then the power is there again.
func (d *Disk) Cut(keep ...bool) {
	if !d.has(0) {
		return
	}
	for i, w := range d.cache[:min(len(keep), len(d.cache))] {
		if keep[i] {
			d.lasting[w.at] = w.bytes
		}
	}
	d.empty()
	d.dark, d.trip = false, noTrip
}

// empty takes all out of the cache; no bytes of a write that was lost stay behind its end.
func (d *Disk) empty() {
	clear(d.cache)
	d.cache = d.cache[:0]
	clear(d.newest)
}
