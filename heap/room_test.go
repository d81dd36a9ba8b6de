package heap

import (
	"testing"

	"stile/api"
	"stile/pool"
)

func TestRoomForANewSlot(t *testing.T) {
	h := newHeap(t, newPool(t, 1, 1), 1)
	inserts(t, "P8.1", h, bytesOf(1, 1500), 0, api.OK)
	// 2046 less 4 and 1500 are 542, of which a new slot takes 4.
	inserts(t, "P8.1: a byte too long", h, bytesOf(2, 539), 0, api.ErrHeapFull)
	scans(t, "P8.1: Insert has failed", h, 0)
	inserts(t, "P8.1: just fits", h, bytesOf(2, 538), 1, api.OK)
	inserts(t, "P8.1: no room is left", h, []byte{1}, 0, api.ErrHeapFull)
	gets(t, "P8.2", h, 0, bytesOf(1, 1500))
	gets(t, "P8.2", h, 1, bytesOf(2, 538))
}

func TestNoRoomForASlotAlone(t *testing.T) {
	for left := range 6 {
		h := newHeap(t, newPool(t, 1, 1), 1)
		inserts(t, "P8.1", h, bytesOf(1, 1500), 0, api.OK)
		inserts(t, "P8.1", h, bytesOf(2, 538-left), 1, api.OK)
		if left > 4 {
			inserts(t, "P8.1: room for a slot and a byte", h, []byte{1}, 2, api.OK)
		} else {
			inserts(t, "P8.1: no room for a slot and a byte", h, []byte{1}, 0, api.ErrHeapFull)
		}
	}
}

func TestRoomForAFreeSlot(t *testing.T) {
	h := newHeap(t, newPool(t, 1, 1), 1)
	inserts(t, "P8.1", h, bytesOf(1, 1500), 0, api.OK)
	inserts(t, "P8.1", h, bytesOf(2, 100), 1, api.OK)
	deletes(t, "P8.1", h, 1, api.OK)
	// 2046 less 8 and 1500 are 538, all of them for the record.
	inserts(t, "P8.1: a byte too long", h, bytesOf(3, 539), 0, api.ErrHeapFull)
	scans(t, "P8.1: Insert has failed", h, 0)
	inserts(t, "P8.1: just fits", h, bytesOf(3, 538), 1, api.OK)
	gets(t, "P8.2", h, 0, bytesOf(1, 1500))
	gets(t, "P8.1", h, 1, bytesOf(3, 538))
}

func TestAPageKeepsItsSlots(t *testing.T) {
	h := newHeap(t, newPool(t, 1, 1), 1)
	for i := range 100 {
		inserts(t, "P8.1", h, bytesOf(i, 10), i, api.OK)
	}
	for i := range 100 {
		deletes(t, "P8.1", h, 99-i, api.OK)
	}
	scans(t, "P8.1", h)
	// 2046 less 400 are 1646.
	inserts(t, "P8.1", h, bytesOf(1, 1500), 0, api.OK)
	inserts(t, "P8.1: its slots take their room", h, bytesOf(2, 147), 0, api.ErrHeapFull)
	inserts(t, "P8.1: its slots take their room", h, bytesOf(2, 146), 1, api.OK)
	inserts(t, "P8.1: a free slot without room", h, []byte{1}, 0, api.ErrHeapFull)
}

func Test256Slots(t *testing.T) {
	h := newHeap(t, newPool(t, 2, 1), 2)
	for i := range 256 {
		inserts(t, "P8.1", h, []byte{byte(i)}, i, api.OK)
	}
	// 2046 less 1024 and 256 are 766: room enough, but no slot.
	inserts(t, "P8.1: a page of 256 slots", h, []byte{1}, 256, api.OK)
	deletes(t, "P8.1", h, 77, api.OK)
	deletes(t, "P8.1", h, 255, api.OK)
	inserts(t, "P8.1: a byte too long for the first page", h, bytesOf(1, 769), 257, api.OK)
	inserts(t, "P8.1: just fits", h, bytesOf(2, 768), 77, api.OK)
	inserts(t, "P8.1: its free slot has no room", h, []byte{2}, 258, api.OK)
	updates(t, "P8.1", h, 77, bytesOf(2, 767), api.OK)
	inserts(t, "P8.1: its free slot has room again", h, []byte{3}, 255, api.OK)
	for i := range 255 {
		if i != 77 {
			gets(t, "P8.2", h, i, []byte{byte(i)})
		}
	}
	gets(t, "P8.1", h, 255, []byte{3})

	h = newHeap(t, newPool(t, 1, 1), 1)
	for i := range 256 {
		inserts(t, "P8.1", h, []byte{byte(i)}, i, api.OK)
	}
	inserts(t, "P8.1: no page has room", h, []byte{1}, 0, api.ErrHeapFull)
	updates(t, "P8.1: the page has room", h, 9, bytesOf(1, 768), api.ErrHeapFull)
	updates(t, "P8.1: the page has room", h, 9, bytesOf(1, 767), api.OK)
}

func TestRoomForUpdate(t *testing.T) {
	h := newHeap(t, newPool(t, 2, 1), 2)
	inserts(t, "P8.1", h, bytesOf(1, 1000), 0, api.OK)
	inserts(t, "P8.1", h, bytesOf(2, 500), 1, api.OK)
	// 2046 less 8 and 1500 are 538: with its own bytes the record 1 has 1038.
	updates(t, "P8.1: a byte more", h, 1, bytesOf(3, 1039), api.ErrHeapFull)
	gets(t, "P8.1: Update has failed", h, 1, bytesOf(2, 500))
	updates(t, "P8.1: just fits", h, 1, bytesOf(4, 1038), api.OK)
	gets(t, "P8.1", h, 1, bytesOf(4, 1038))
	gets(t, "P8.2", h, 0, bytesOf(1, 1000))
	updates(t, "P8.1: no room", h, 0, bytesOf(5, 1001), api.ErrHeapFull)
	updates(t, "P8.1: as many bytes", h, 0, bytesOf(5, 1000), api.OK)
	updates(t, "P8.1: fewer bytes", h, 0, bytesOf(6, 1), api.OK)
	gets(t, "P8.1", h, 0, bytesOf(6, 1))
	gets(t, "P8.2", h, 1, bytesOf(4, 1038))
	updates(t, "P8.1: all the room again", h, 0, bytesOf(7, 1000), api.OK)
	gets(t, "P8.2", h, 1, bytesOf(4, 1038))
	scans(t, "P8.1: it has its id", h, 0, 1)
	pageIs(t, "P8.1: Update takes no other page", h.pool, 1, noughts)
}

func TestTheFirstPageThatHasRoom(t *testing.T) {
	p := newPool(t, 4, 2)
	h := newHeap(t, p, 4)
	for page := range 4 {
		inserts(t, "P8.1", h, bytesOf(page, 1500-page*100), page*256, api.OK)
	}
	inserts(t, "P8.1: the third page has room", h, bytesOf(9, 700), 513, api.OK)
	inserts(t, "P8.1: the fourth page has room", h, bytesOf(9, 700), 769, api.OK)
	inserts(t, "P8.1: no page has room", h, bytesOf(9, 700), 0, api.ErrHeapFull)
	inserts(t, "P8.1: the second page has room", h, bytesOf(9, 600), 257, api.OK)
	inserts(t, "P8.1: the first page has room", h, bytesOf(9, 500), 1, api.OK)
	deletes(t, "P8.1", h, 512, api.OK)
	inserts(t, "P8.1: the first page has room", h, bytesOf(9, 30), 2, api.OK)
	inserts(t, "P8.1: the second page has room", h, bytesOf(9, 30), 258, api.OK)
	inserts(t, "P8.1: the third page has a free slot", h, bytesOf(9, 30), 512, api.OK)
	unpinned(t, "Insert", p, 4)
}

func TestTheGreatestHeap(t *testing.T) {
	p := newPool(t, 256, 64)
	h := newHeap(t, p, 256)
	for page := range 256 {
		inserts(t, "P8.1", h, bytesOf(page, 1500), page*256, api.OK)
	}
	inserts(t, "P8.1: no page has room", h, bytesOf(0, 1500), 0, api.ErrHeapFull)
	for page := range 256 {
		gets(t, "P8.2", h, page*256, bytesOf(page, 1500))
	}
	getFails(t, "P8.1", h, 65536, api.ErrHeapNone)
	deletes(t, "P8.1", h, 65280, api.OK)
	inserts(t, "P8.1: the last page", h, bytesOf(3, 1400), 65280, api.OK)
}

// stuck has all frames of a pool taken, as one of the two errors asks, and tells how to let them go.
func stuck(t *testing.T, p *pool.Pool, pages []int, errno api.Errno) (release func()) {
	t.Helper()
	for _, page := range pages {
		b, e := p.Pin(page)
		if e != api.OK {
			t.Fatalf("Pin(%d): %d", page, e)
		}
		if errno == api.ErrPoolBehind {
			p.Put(page, b, 5)
			p.Unpin(page)
		}
	}
	return func() {
		p.Safe(5)
		for _, page := range pages {
			p.Unpin(page)
		}
	}
}

func TestErrorsOfThePool(t *testing.T) {
	for _, errno := range []api.Errno{api.ErrPoolFull, api.ErrPoolBehind} {
		p := newPool(t, 4, 2)
		h := newHeap(t, p, 2)
		inserts(t, "P8.1", h, bytesOf(1, 1500), 0, api.OK)
		inserts(t, "P8.1", h, bytesOf(2, 1500), 256, api.OK)
		release := stuck(t, p, []int{2, 3}, errno)
		inserts(t, "P8.1: the pool's error", h, []byte{1}, 0, errno)
		inserts(t, "P8.1: ErrHeapLong is named first", h, nil, 0, api.ErrHeapLong)
		getFails(t, "P8.1: the pool's error", h, 0, errno)
		getFails(t, "P8.1: a page that is not there", h, 512, api.ErrHeapNone)
		updates(t, "P8.1: the pool's error", h, 256, []byte{1}, errno)
		updates(t, "P8.1: a page that is not there", h, -1, []byte{1}, api.ErrHeapNone)
		deletes(t, "P8.1: the pool's error", h, 0, errno)
		deletes(t, "P8.1: a page that is not there", h, 512, api.ErrHeapNone)
		if ids, e := h.Scan(); len(ids) != 0 || e != errno {
			t.Errorf("P8.1: the pool's error: Scan: %v, %d, not %d", ids, e, errno)
		}
		if h, e := New(p, 2); h != nil || e != errno {
			t.Errorf("P8.1: the pool's error: New: %v, %d, not %d", h, e, errno)
		}
		release()
		unpinned(t, "the pool's error", p, 4)
		scans(t, "P8.1: behind errors", h, 0, 256)
		gets(t, "P8.2: behind errors", h, 0, bytesOf(1, 1500))
		gets(t, "P8.2: behind errors", h, 256, bytesOf(2, 1500))
	}
}

// The first page of the heap can be had, and its second one not.
func TestErrorsOfThePoolHalfWay(t *testing.T) {
	for _, errno := range []api.Errno{api.ErrPoolFull, api.ErrPoolBehind} {
		p := newPool(t, 3, 2)
		h := newHeap(t, p, 2)
		inserts(t, "P8.1", h, bytesOf(1, 1500), 0, api.OK)
		inserts(t, "P8.1", h, bytesOf(2, 1500), 256, api.OK)
		release := stuck(t, p, []int{0, 2}, errno)
		gets(t, "P8.1: a page that is held", h, 0, bytesOf(1, 1500))
		inserts(t, "P8.1: no room in the first page", h, bytesOf(3, 600), 0, errno)
		inserts(t, "P8.1: room in the first page", h, bytesOf(3, 500), 1, api.OK)
		updates(t, "P8.1: a page that is held", h, 1, bytesOf(4, 400), api.OK)
		deletes(t, "P8.1: a page that is held", h, 0, api.OK)
		if ids, e := h.Scan(); len(ids) != 0 || e != errno {
			t.Errorf("P8.1: the pool's error: Scan: %v, %d, not %d", ids, e, errno)
		}
		getFails(t, "P8.1: the pool's error", h, 256, errno)
		release()
		unpinned(t, "the pool's error", p, 3)
		scans(t, "P8.1: behind errors", h, 1, 256)
		gets(t, "P8.2: behind errors", h, 1, bytesOf(4, 400))
		gets(t, "P8.2: behind errors", h, 256, bytesOf(2, 1500))
	}
}

func TestEachCallUnpins(t *testing.T) {
	p := newPool(t, 3, 3)
	h := newHeap(t, p, 3)
	for _, c := range []struct {
		what string
		call func()
	}{
		{"Insert", func() { h.Insert(bytesOf(1, 1500)) }},
		{"Insert of nothing", func() { h.Insert(nil) }},
		{"Insert into the second page", func() { h.Insert(bytesOf(1, 1500)) }},
		{"Insert into the third page", func() { h.Insert(bytesOf(1, 1500)) }},
		{"Insert without room", func() { h.Insert(bytesOf(1, 1500)) }},
		{"Get", func() { h.Get(256) }},
		{"Get of nothing", func() { h.Get(257) }},
		{"Update", func() { h.Update(256, bytesOf(1, 1000)) }},
		{"Update of nothing", func() { h.Update(257, bytesOf(1, 1000)) }},
		{"Update that is too long", func() { h.Update(256, bytesOf(1, 1501)) }},
		{"Insert into the second page", func() { h.Insert(bytesOf(1, 1000)) }},
		{"Update without room", func() { h.Update(256, bytesOf(1, 1500)) }},
		{"Scan", func() { h.Scan() }},
		{"Delete", func() { h.Delete(256) }},
		{"Delete of nothing", func() { h.Delete(256) }},
		{"New", func() { New(p, 2) }},
	} {
		c.call()
		unpinned(t, c.what, p, 3)
	}
}
