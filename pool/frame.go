package pool

import "cadastre/api"

// frame is a page in memory.
type frame struct {
	number    uint32
	page      api.Page
	unwritten bool // it was put, and not written since
	asked     bool // it was asked for since the hand came by last
}

// find tells the frame of a page, if it is in one.
func (p *Pool) find(page uint32) (*frame, bool) {
	place, there := p.places[page]
	if !there {
		return nil, false
	}
	f := &p.frames[place]
	f.asked = true
	return f, true
}

// take finds a frame for a page that is in none; whatever page has it is written first.
func (p *Pool) take(page uint32) (*frame, api.Errno) {
	place := len(p.frames)
	if place < p.most {
		p.frames = append(p.frames, frame{})
	} else {
		place = p.turn()
		if e := p.write(&p.frames[place]); e != api.OK {
			return nil, e
		}
		delete(p.places, p.frames[place].number)
	}
	p.places[page] = place
	p.frames[place] = frame{number: page, asked: true}
	return &p.frames[place], api.OK
}

// turn lets the hand go round, up to a frame that was not asked for since it came by last; behind a whole round there is one.
func (p *Pool) turn() int {
	for {
		place := p.hand
		p.hand = (p.hand + 1) % len(p.frames)
		if !p.frames[place].asked {
			return place
		}
		p.frames[place].asked = false
	}
}
