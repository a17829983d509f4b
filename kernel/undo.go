package kernel

import (
	"maps"
	"slices"

	"cadastre/api"
	"cadastre/node"
	"cadastre/page"
	"cadastre/pool"
)

// Point tells how far a transaction is.
func (k *Kernel) Point(txn uint32) uint64 {
	if !k.Live(txn) {
		return 0
	}
	return k.lives[txn].point()
}

// Back takes back what was done behind a point.
func (k *Kernel) Back(txn uint32, point uint64) api.Errno {
	t, e := k.find(txn)
	if e != api.OK {
		return e
	}
	left, there := t.upTo(point)
	if !there {
		return api.ErrArg
	}
	return k.heed(k.back(t, left))
}

// back takes back the last operations of a transaction, so that so many are left.
func (k *Kernel) back(t *live, left int) api.Errno {
	u, e := k.plan(t, left)
	if e != api.OK {
		return e
	}
	return k.carryOut(t, u)
}

// undoing is what taking back comes to, worked out ahead of doing it: where one operation can't be taken back, none is.
type undoing struct {
	pool    *pool.Pool
	pages   map[uint32]api.Page // as they are to be
	records []api.Record
	left    int // how many operations are left then
}

// plan works out what taking back comes to.
func (k *Kernel) plan(t *live, left int) (*undoing, api.Errno) {
	u := &undoing{pool: k.pool, pages: map[uint32]api.Page{}, left: left}
	for at := len(t.deeds) - 1; at >= left; at-- {
		if e := u.takeBack(t.deeds[at], t.undo(at)); e != api.OK {
			return nil, e
		}
	}
	return u, api.OK
}

// get tells a page as it is by then.
func (u *undoing) get(number uint32) (api.Page, api.Errno) {
	if p, there := u.pages[number]; there {
		return p, api.OK
	}
	return u.pool.Get(number)
}

// takeBack takes one operation back; next is the LSN of what is to be undone then. Whatever there is in its way is one error, but for the power's going.
func (u *undoing) takeBack(d deed, next uint64) api.Errno {
	e := u.undo(d, next)
	if e == api.OK || e == api.ErrDark {
		return e
	}
	return api.ErrForm
}

func (u *undoing) undo(d deed, next uint64) api.Errno {
	number, e := u.pageOf(d)
	if e != api.OK {
		return e
	}
	op, e := page.Undo(kindOf(d.root), d.op)
	if e != api.OK {
		return e
	}
	to, e := made(u.get, number, d.root, op)
	if e != api.OK {
		return e
	}
	u.pages[number] = to
	u.records = append(u.records, api.Record{Kind: api.RecUndo, Undo: next, Page: number, Root: d.root, Op: op})
	return api.OK
}

// pageOf tells the page in which an operation is to be undone: an entry of a tree may lie in another leaf by now.
func (u *undoing) pageOf(d deed) (uint32, api.Errno) {
	if d.root == 0 {
		return d.page, api.OK
	}
	path, e := node.Path(u.get, d.root, string(d.op.Data))
	if e != api.OK {
		return 0, e
	}
	return path[len(path)-1], api.OK
}

// carryOut does what was worked out.
func (k *Kernel) carryOut(t *live, u *undoing) api.Errno {
	for _, r := range u.records {
		lsn, e := k.appendOf(t, r, 0)
		if e != api.OK {
			return e
		}
		to := u.pages[r.Page]
		to.LSN = lsn
		u.pages[r.Page] = to
	}
	for _, number := range slices.Sorted(maps.Keys(u.pages)) {
		if e := k.pool.Put(number, u.pages[number]); e != api.OK {
			return e
		}
	}
	t.deeds = slices.Delete(t.deeds, u.left, len(t.deeds))
	return api.OK
}
