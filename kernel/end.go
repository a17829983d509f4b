package kernel

import "cadastre/api"

// Commit ends a transaction: what it did lasts.
func (k *Kernel) Commit(txn uint32) api.Errno {
	t, e := k.find(txn)
	if e != api.OK {
		return e
	}
	return k.heed(k.commit(t))
}

func (k *Kernel) commit(t *live) api.Errno {
	if _, e := k.appendOf(t, api.Record{Kind: api.RecCommit}, 0); e != api.OK {
		return e
	}
	if e := k.log.Flush(); e != api.OK {
		return e
	}
	return k.end(t)
}

// Abort ends a transaction: what it did is taken back.
func (k *Kernel) Abort(txn uint32) api.Errno {
	t, e := k.find(txn)
	if e != api.OK {
		return e
	}
	return k.heed(k.abort(t))
}

func (k *Kernel) abort(t *live) api.Errno {
	u, e := k.plan(t, 0)
	if e != api.OK {
		return e
	}
	if _, e := k.appendOf(t, api.Record{Kind: api.RecAbort}, 0); e != api.OK {
		return e
	}
	if e := k.carryOut(t, u); e != api.OK {
		return e
	}
	return k.end(t)
}

// end lets a transaction be live no more.
func (k *Kernel) end(t *live) api.Errno {
	if _, e := k.appendOf(t, api.Record{Kind: api.RecEnd}, 0); e != api.OK {
		return e
	}
	delete(k.lives, t.txn)
	return api.OK
}
