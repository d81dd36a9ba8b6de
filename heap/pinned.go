package heap

import "stile/api"

// logMark comes with all that is put: the heap knows of no log, so that its pages never wait for one.
const logMark = 0

// onPage hands a page's bytes to work while it is pinned; what work answers, if it is something, is the page from then on.
func (h *Heap) onPage(page int, work func(content []byte) []byte) api.Errno {
	content, errno := h.pool.Pin(page)
	if errno != api.OK {
		return errno
	}
	// A pinned page can be unpinned whatever has become of it.
	defer h.pool.Unpin(page)
	if fresh := work(content); fresh != nil {
		return h.pool.Put(page, fresh, logMark)
	}
	return api.OK
}

// eachPage hands page by page to work, up to the first one that the pool has an error for.
func (h *Heap) eachPage(work func(content []byte) []byte) api.Errno {
	for page := range h.pages {
		if errno := h.onPage(page, work); errno != api.OK {
			return errno
		}
	}
	return api.OK
}

// onRecord hands the page and the slot of a record to work, as onPage does; ErrHeapNone, if there is no such record.
func (h *Heap) onRecord(id int, work func(content []byte, slot int) ([]byte, api.Errno)) api.Errno {
	if h == nil {
		return api.ErrArg
	}
	if id < 0 || id >= h.pages*maxSlots {
		return api.ErrHeapNone
	}
	told := api.ErrHeapNone
	errno := h.onPage(id/maxSlots, func(content []byte) (fresh []byte) {
		if slot := id % maxSlots; hasRecord(content, slot) {
			fresh, told = work(content, slot)
		}
		return fresh
	})
	if errno != api.OK {
		return errno
	}
	return told
}
