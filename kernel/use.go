package kernel

import "cadastre/api"

// Use says that pages are in use.
func (k *Kernel) Use(pages []uint32) api.Errno {
	if k.isDark() {
		return api.ErrDark
	}
	for _, number := range pages {
		if !k.has(number) {
			return api.ErrRange
		}
	}
	k.mark(pages, true)
	return api.OK
}

// Fresh tells pages that are not in use; they are, then.
func (k *Kernel) Fresh(n int) ([]uint32, api.Errno) {
	if k.isDark() {
		return nil, api.ErrDark
	}
	if n < 0 {
		return nil, api.ErrArg
	}
	var fresh []uint32
	for number := 1; number <= k.Pages() && len(fresh) < n; number++ {
		if !k.used[number] {
			fresh = append(fresh, uint32(number))
		}
	}
	if len(fresh) < n {
		return nil, api.ErrFull
	}
	k.mark(fresh, true)
	return fresh, api.OK
}

// Release says that pages are not in use.
func (k *Kernel) Release(pages []uint32) { k.mark(pages, false) }

// mark says of those of the pages that there are whether they are in use.
func (k *Kernel) mark(pages []uint32, used bool) {
	for _, number := range pages {
		if k.has(number) {
			k.used[number] = used
		}
	}
}
