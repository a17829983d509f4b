package node

import "cadastre/api"

// stop is a page that is come to: its number, the page, how many pages down it lies, and where its entries are to lie.
type stop struct {
	number uint32
	page   api.Page
	deep   int
	lies   span
}

// walker goes over a tree's pages: by get, with come called at each.
type walker struct {
	get  Get
	come func(stop)
	seen map[uint32]struct{}
}

// walk goes over a tree's pages from the root down, each ahead of its children.
func walk(get Get, root uint32, come func(stop)) {
	must(root != 0, api.ErrArg)
	w := walker{get, come, map[uint32]struct{}{}}
	w.down(root, 1, span{})
}

// down goes over a page, and all that is below it.
func (w walker) down(number uint32, deep int, lies span) {
	_, twice := w.seen[number]
	must(!twice && deep <= api.MaxHigh, api.ErrForm)
	w.seen[number] = struct{}{}
	p := ask(w.get, number)
	w.come(stop{number, p, deep, lies})
	if p.Kind == api.PageLeaf {
		return
	}
	for child, within := range children(p, lies) {
		w.down(child, deep+1, within)
	}
}

// check gives up, if a tree is not right.
func check(get Get, root uint32) {
	var leaves []stop
	walk(get, root, func(s stop) {
		for _, c := range s.page.Cells {
			entry := entryOf(s.page.Kind, c)
			must(isEntry(entry) && s.lies.has(entry), api.ErrForm)
		}
		if s.page.Kind == api.PageLeaf {
			leaves = append(leaves, s)
			must(s.deep == leaves[0].deep, api.ErrForm)
		}
	})
	for i, leaf := range leaves {
		var next uint32
		if i+1 < len(leaves) {
			next = leaves[i+1].number
		}
		must(leaf.page.Next == next, api.ErrForm)
	}
}
