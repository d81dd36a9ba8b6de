package heap

import (
	"bytes"
	"math"
	"slices"
	"testing"

	"stile/api"
	"stile/disk"
	"stile/pool"
)

func newPool(t *testing.T, pages, frames int) *pool.Pool {
	t.Helper()
	d, e := disk.New(16 * pages)
	if e != api.OK {
		t.Fatalf("a disk of %d pages: %d", pages, e)
	}
	p, e := pool.New(d, 0, pages, frames)
	if e != api.OK {
		t.Fatalf("a pool of %d pages: %d", pages, e)
	}
	return p
}

func newHeap(t *testing.T, p *pool.Pool, pages int) *Heap {
	t.Helper()
	h, e := New(p, pages)
	if h == nil || e != api.OK {
		t.Fatalf("P8.1: New(%d): %v, %d", pages, h, e)
	}
	return h
}

// bytesOf is n bytes that tell a number and their places.
func bytesOf(tag, n int) []byte {
	b := make([]byte, n)
	for i := range b {
		b[i] = byte(tag + i*7 + i/256)
	}
	return b
}

func inserts(t *testing.T, what string, h *Heap, b []byte, id int, errno api.Errno) {
	t.Helper()
	if x, e := h.Insert(b); x != id || e != errno {
		t.Errorf("%s: Insert of %d bytes: %d, %d, not %d, %d", what, len(b), x, e, id, errno)
	}
}

func gets(t *testing.T, what string, h *Heap, id int, want []byte) {
	t.Helper()
	if b, e := h.Get(id); e != api.OK || !bytes.Equal(b, want) {
		t.Errorf("%s: Get(%d): %d bytes, %d, not the record's %d", what, id, len(b), e, len(want))
	}
}

func getFails(t *testing.T, what string, h *Heap, id int, want api.Errno) {
	t.Helper()
	if b, e := h.Get(id); len(b) != 0 || e != want {
		t.Errorf("%s: Get(%d): %d bytes, %d, not none and %d", what, id, len(b), e, want)
	}
}

func updates(t *testing.T, what string, h *Heap, id int, b []byte, want api.Errno) {
	t.Helper()
	if e := h.Update(id, b); e != want {
		t.Errorf("%s: Update(%d, %d bytes): %d, not %d", what, id, len(b), e, want)
	}
}

func deletes(t *testing.T, what string, h *Heap, id int, want api.Errno) {
	t.Helper()
	if e := h.Delete(id); e != want {
		t.Errorf("%s: Delete(%d): %d, not %d", what, id, e, want)
	}
}

func scans(t *testing.T, what string, h *Heap, want ...int) {
	t.Helper()
	if ids, e := h.Scan(); e != api.OK || !slices.Equal(ids, want) {
		t.Errorf("%s: Scan: %v, %d, not %v", what, ids, e, want)
	}
}

// pageIs asks what a page of the pool is.
func pageIs(t *testing.T, what string, p *pool.Pool, page int, want []byte) {
	t.Helper()
	b, e := p.Pin(page)
	if e != api.OK || !bytes.Equal(b, want) {
		t.Errorf("%s: the page %d, %d", what, page, e)
	}
	p.Unpin(page)
}

// fill has a page put and unpinned.
func fill(t *testing.T, p *pool.Pool, page int, b []byte, mark uint64) {
	t.Helper()
	_, e := p.Pin(page)
	if e != api.OK || p.Put(page, b, mark) != api.OK || p.Unpin(page) != api.OK {
		t.Fatalf("the page %d can't be put: %d", page, e)
	}
}

// unpinned asks that no page is pinned.
func unpinned(t *testing.T, what string, p *pool.Pool, pages int) {
	t.Helper()
	for page := range pages {
		if e := p.Unpin(page); e != api.ErrPoolPin {
			t.Errorf("P8.1: %s leaves the page %d pinned: %d", what, page, e)
		}
	}
}

var noughts = make([]byte, 2048)

func TestNew(t *testing.T) {
	p := newPool(t, 256, 4)
	for _, pages := range []int{math.MinInt, -1, 0, 257, math.MaxInt} {
		if h, e := New(p, pages); h != nil || e != api.ErrArg {
			t.Errorf("P8.1: New of %d pages: %v, %d", pages, h, e)
		}
	}
	for _, pages := range []int{-1, 0, 1, 256, 257} {
		if h, e := New(nil, pages); h != nil || e != api.ErrArg {
			t.Errorf("P8.1: New of no pool, %d pages: %v, %d", pages, h, e)
		}
	}
	for _, pages := range []int{1, 2, 255, 256} {
		scans(t, "P8.1: a new heap", newHeap(t, p, pages))
	}
	for _, pages := range []int{1, 2, 255} {
		small := newPool(t, pages, 1)
		if h, e := New(small, pages+1); h != nil || e != api.ErrPoolRange {
			t.Errorf("P8.1: New of a page more than the pool's %d: %v, %d", pages, h, e)
		}
		if h, e := New(small, 257); h != nil || e != api.ErrArg {
			t.Errorf("P8.1: ErrArg is ahead of the pool's: %v, %d", h, e)
		}
		newHeap(t, small, pages)
		unpinned(t, "New", small, pages)
	}
}

func TestNewMakesNoughts(t *testing.T) {
	for _, frames := range []int{1, 2, 8} {
		p := newPool(t, 4, frames)
		old := newHeap(t, p, 4)
		for i := range 4 {
			inserts(t, "P8.1", old, bytesOf(i, 1500), 256*i, api.OK)
		}
		fill(t, p, 1, bytesOf(9, 2048), 0)
		fill(t, p, 3, bytesOf(8, 2048), 0)
		h := newHeap(t, p, 3)
		scans(t, "P8.1: New", h)
		getFails(t, "P8.1: New", h, 0, api.ErrHeapNone)
		for page := range 3 {
			pageIs(t, "P8.1: New makes noughts", p, page, noughts)
		}
		pageIs(t, "P8.1: New leaves what is no page of the heap", p, 3, bytesOf(8, 2048))
		inserts(t, "P8.1: New", h, []byte("a"), 0, api.OK)
		unpinned(t, "New", p, 4)
	}
}

func TestNewThatFailsChangesNothing(t *testing.T) {
	p := newPool(t, 4, 2)
	h := newHeap(t, p, 4)
	for i := range 4 {
		inserts(t, "P8.1", h, bytesOf(i, 1500), 256*i, api.OK)
	}
	fails := func(what string, pages int, want api.Errno) {
		t.Helper()
		if h, e := New(p, pages); h != nil || e != want {
			t.Errorf("P8.1: New, %s: %v, %d, not %d", what, h, e, want)
		}
	}
	same := func(what string) {
		t.Helper()
		unpinned(t, "New", p, 4)
		for i := range 4 {
			gets(t, "P8.1: New has failed, "+what, h, 256*i, bytesOf(i, 1500))
		}
	}
	fails("no such page", 5, api.ErrPoolRange)
	same("no such page")
	p.Pin(0)
	p.Pin(2)
	fails("all frames pinned", 2, api.ErrPoolFull)
	p.Unpin(0)
	p.Unpin(2)
	same("all frames pinned")
	for _, page := range []int{0, 2} {
		b, _ := p.Pin(page)
		p.Put(page, b, 9)
		p.Unpin(page)
	}
	fails("the log is behind", 2, api.ErrPoolBehind)
	p.Safe(9)
	same("the log is behind")
}

func TestExamples(t *testing.T) {
	h := newHeap(t, newPool(t, 2, 1), 2)
	inserts(t, "P8.1", h, []byte("abc"), 0, api.OK)
	inserts(t, "P8.1", h, []byte("de"), 1, api.OK)
	deletes(t, "P8.1", h, 0, api.OK)
	inserts(t, "P8.1", h, []byte("f"), 0, api.OK)
	getFails(t, "P8.1", h, 5, api.ErrHeapNone)
	updates(t, "P8.1", h, 1, make([]byte, 2000), api.ErrHeapLong)
	gets(t, "P8.2", h, 0, []byte("f"))
	gets(t, "P8.2", h, 1, []byte("de"))
}

func TestLengths(t *testing.T) {
	h := newHeap(t, newPool(t, 4, 2), 4)
	for _, wrong := range [][]byte{nil, {}, make([]byte, 1501), make([]byte, 2046), make([]byte, 70000)} {
		inserts(t, "P8.1", h, wrong, 0, api.ErrHeapLong)
	}
	scans(t, "P8.1: Insert has failed", h)
	inserts(t, "P8.1: 1 byte", h, []byte{0}, 0, api.OK)
	inserts(t, "P8.1: 1500 bytes", h, bytesOf(3, 1500), 1, api.OK)
	gets(t, "P8.1", h, 0, []byte{0})
	gets(t, "P8.1", h, 1, bytesOf(3, 1500))
	for _, wrong := range [][]byte{nil, {}, make([]byte, 1501), make([]byte, 2046), make([]byte, 70000)} {
		updates(t, "P8.1", h, 0, wrong, api.ErrHeapLong)
		updates(t, "P8.1: ErrHeapNone is named first", h, 2, wrong, api.ErrHeapNone)
		updates(t, "P8.1: ErrHeapNone is named first", h, -1, wrong, api.ErrHeapNone)
		gets(t, "P8.1: Update has failed", h, 0, []byte{0})
	}
	updates(t, "P8.1: 1 byte", h, 1, []byte{7}, api.OK)
	updates(t, "P8.1: 1500 bytes", h, 0, bytesOf(4, 1500), api.OK)
	gets(t, "P8.1", h, 0, bytesOf(4, 1500))
	gets(t, "P8.1", h, 1, []byte{7})
	scans(t, "P8.1", h, 0, 1)
}

func TestNoSuchRecord(t *testing.T) {
	// The pool has a page more than the heap.
	p := newPool(t, 3, 2)
	h := newHeap(t, p, 2)
	for i := range 3 {
		inserts(t, "P8.1", h, bytesOf(i, 5), i, api.OK)
	}
	deletes(t, "P8.1", h, 1, api.OK)
	// As if the page behind the heap's last one had a record.
	fill(t, p, 2, append([]byte{1, 0, 6, 0, 1, 0, 'x'}, noughts[7:]...), 0)
	for _, id := range []int{math.MinInt, -256, -255, -1, 1, 3, 255, 256, 257, 511, 512, 513, 65535, 65536, 1 << 32, math.MaxInt} {
		getFails(t, "P8.1", h, id, api.ErrHeapNone)
		updates(t, "P8.1", h, id, []byte("x"), api.ErrHeapNone)
		deletes(t, "P8.1", h, id, api.ErrHeapNone)
	}
	scans(t, "P8.1: none of them has changed anything", h, 0, 2)
	gets(t, "P8.1", h, 0, bytesOf(0, 5))
	gets(t, "P8.1", h, 2, bytesOf(2, 5))
	inserts(t, "P8.1", h, []byte("y"), 1, api.OK)
	unpinned(t, "what has failed", p, 3)
}

func TestDelete(t *testing.T) {
	h := newHeap(t, newPool(t, 2, 1), 2)
	for i := range 4 {
		inserts(t, "P8.1", h, bytesOf(i, 10+i), i, api.OK)
	}
	deletes(t, "P8.1", h, 2, api.OK)
	deletes(t, "P8.1: twice", h, 2, api.ErrHeapNone)
	getFails(t, "P8.1: behind Delete", h, 2, api.ErrHeapNone)
	updates(t, "P8.1: behind Delete", h, 2, []byte("x"), api.ErrHeapNone)
	scans(t, "P8.1: behind Delete", h, 0, 1, 3)
	for _, i := range []int{0, 1, 3} {
		gets(t, "P8.2: behind Delete", h, i, bytesOf(i, 10+i))
	}
	deletes(t, "P8.1", h, 0, api.OK)
	inserts(t, "P8.1: the first free slot", h, []byte("a"), 0, api.OK)
	inserts(t, "P8.1: the next free slot", h, []byte("b"), 2, api.OK)
	inserts(t, "P8.1: a new slot behind", h, []byte("c"), 4, api.OK)
	gets(t, "P8.1: Insert behind Delete", h, 2, []byte("b"))
}

func TestScanIsRising(t *testing.T) {
	h := newHeap(t, newPool(t, 5, 2), 5)
	scans(t, "P8.1: no records", h)
	var want []int
	for page := range 4 {
		inserts(t, "P8.1", h, bytesOf(page, 1500), page*256, api.OK)
		want = append(want, page*256)
	}
	scans(t, "P8.1", h, want...)
	for i := range 4 {
		inserts(t, "P8.1", h, bytesOf(i, 530), i*256+1, api.OK)
	}
	scans(t, "P8.1", h, 0, 1, 256, 257, 512, 513, 768, 769)
	deletes(t, "P8.1", h, 256, api.OK)
	deletes(t, "P8.1", h, 513, api.OK)
	scans(t, "P8.1", h, 0, 1, 257, 512, 768, 769)
	deletes(t, "P8.1", h, 257, api.OK)
	inserts(t, "P8.1", h, bytesOf(1, 1000), 256, api.OK)
	scans(t, "P8.1: a page between has one slot free", h, 0, 1, 256, 512, 768, 769)
}

func TestWhatIsHandedInAndOut(t *testing.T) {
	h := newHeap(t, newPool(t, 2, 1), 2)
	spoil := func(b []byte) {
		for i := range b {
			b[i] = 0xee
		}
	}
	memory := append(bytesOf(1, 40), 1, 2, 3)
	inserts(t, "P8.1", h, memory[:40], 0, api.OK)
	inserts(t, "P8.1", h, memory[:20], 1, api.OK)
	if !bytes.Equal(memory, append(bytesOf(1, 40), 1, 2, 3)) {
		t.Error("P8.1: Insert has written into what it was given")
	}
	spoil(memory)
	gets(t, "P8.2: what Insert was given was changed", h, 0, bytesOf(1, 40))
	memory = append(bytesOf(2, 30), 1, 2, 3)
	updates(t, "P8.1", h, 0, memory[:30], api.OK)
	if !bytes.Equal(memory, append(bytesOf(2, 30), 1, 2, 3)) {
		t.Error("P8.1: Update has written into what it was given")
	}
	spoil(memory)
	gets(t, "P8.2: what Update was given was changed", h, 0, bytesOf(2, 30))
	one, _ := h.Get(0)
	two, _ := h.Get(0)
	spoil(one[:cap(one)])
	if !bytes.Equal(two, bytesOf(2, 30)) {
		t.Error("P8.1: two answers share memory")
	}
	gets(t, "P8.2: what Get answered was changed", h, 0, bytesOf(2, 30))
	gets(t, "P8.2: what Get answered was changed", h, 1, bytesOf(1, 20))
	updates(t, "P8.1", h, 0, two, api.OK)
	updates(t, "P8.1", h, 1, two, api.OK)
	spoil(two)
	gets(t, "P8.2: what Get had answered was given, and changed", h, 1, bytesOf(2, 30))
	ids, _ := h.Scan()
	ids[0] = 99
	scans(t, "P8.1: what Scan answered was changed", h, 0, 1)
}

func TestNil(t *testing.T) {
	var h *Heap
	for _, b := range [][]byte{nil, {1}, make([]byte, 1501)} {
		inserts(t, "P8.1: nil", h, b, 0, api.ErrArg)
		updates(t, "P8.1: nil", h, 0, b, api.ErrArg)
		updates(t, "P8.1: nil", h, -1, b, api.ErrArg)
	}
	for _, id := range []int{-1, 0, 1 << 20} {
		getFails(t, "P8.1: nil", h, id, api.ErrArg)
		deletes(t, "P8.1: nil", h, id, api.ErrArg)
	}
	if ids, e := h.Scan(); len(ids) != 0 || e != api.ErrArg {
		t.Errorf("P8.1: nil: Scan: %v, %d", ids, e)
	}
}
