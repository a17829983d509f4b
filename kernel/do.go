package kernel

import (
	"cadastre/api"
	"cadastre/node"
	"cadastre/page"
)

// Do does an operation, for a transaction.
func (k *Kernel) Do(txn, page, root uint32, op api.Op) api.Errno {
	t, e := k.find(txn)
	if e != api.OK {
		return e
	}
	if !mayDo(txn, root, op) {
		return api.ErrArg
	}
	return k.heed(k.do(t, page, root, op))
}

// kindOf tells of which kind a page is on which an operation is done.
func kindOf(root uint32) int {
	if root == 0 {
		return api.PageHeap
	}
	return api.PageLeaf
}

// mayDo tells whether a transaction may do such an operation on a page of a heap (root 0), or of a tree.
func mayDo(txn, root uint32, op api.Op) bool {
	switch op.Kind {
	case api.OpPut:
	case api.OpKill:
		if op.Txn != txn {
			return false
		}
	default:
		return false
	}
	return op.Slot >= 0 && op.Slot < api.MaxCells && page.Right(kindOf(root), op)
}

// do does an operation that a live transaction may do.
func (k *Kernel) do(t *live, number, root uint32, op api.Op) api.Errno {
	if root != 0 {
		path, e := node.Path(k.pool.Get, root, string(op.Data))
		if e != api.OK {
			return e
		}
		if path[len(path)-1] != number {
			return api.ErrArg
		}
	}
	to, e := made(k.pool.Get, number, root, op)
	if e != api.OK {
		return e
	}
	r := api.Record{Kind: api.RecDo, Page: number, Root: root, Op: op}
	if r.LSN, e = k.appendOf(t, r, k.kept()+keptFor(op)); e != api.OK {
		return e
	}
	to.LSN = r.LSN
	if e := k.pool.Put(number, to); e != api.OK {
		return e
	}
	t.did(r)
	return api.OK
}

// made tells what an operation makes of a page of a heap (root 0), or of a tree.
func made(get node.Get, number, root uint32, op api.Op) (api.Page, api.Errno) {
	p, e := get(number)
	if e != api.OK {
		return api.Page{}, e
	}
	if p.Kind != kindOf(root) {
		return api.Page{}, api.ErrForm
	}
	return page.Do(p, op)
}
