package pool

import (
	"bytes"
	"testing"

	"stile/api"
	"stile/disk"
)

// pagesOnDisk asks which pages a disk holds.
func pagesOnDisk(t *testing.T, what string, d *disk.Disk, want ...[]byte) {
	t.Helper()
	for page, b := range want {
		if !bytes.Equal(onDisk(t, d, 0, page), b) {
			t.Errorf("%s: the page %d on the disk", what, page)
		}
	}
}

func TestFlush(t *testing.T) {
	d := newDisk(t, 64)
	p := newPool(t, d, 0, 4, 4)
	flushes(t, "P7.1: a new pool", p, api.OK)
	kept(t, p, 3, 33, 2)
	kept(t, p, 0, 30, 1)
	seen(t, p, 1)
	pins(t, "P7.1", p, 2, noughts)
	puts(t, "P7.1", p, 2, pageOf(32), 2, api.OK)
	p.Safe(2)
	flushes(t, "P7.1: pinned ones too", p, api.OK)
	pagesOnDisk(t, "P7.1: Flush", d, pageOf(30), noughts, pageOf(32), pageOf(33))
	wrote(t, "P7.1: Flush writes the dirty ones alone", d, 48)
	holds(t, "P7.1: Flush frees no frame", p, 0, 1, 2, 3)
	flushes(t, "P7.1: none is dirty any more", p, api.OK)
	wrote(t, "P7.1: none is dirty any more", d, 48)
	unpins(t, "P7.1: Flush leaves pins", p, 2, api.OK)
	unpins(t, "P7.1: Flush leaves pins", p, 2, api.ErrPoolPin)
	pins(t, "P7.3: behind Flush", p, 0, pageOf(30))
	puts(t, "P7.1", p, 0, pageOf(31), 0, api.OK)
	flushes(t, "P7.1: dirty again", p, api.OK)
	wrote(t, "P7.1: dirty again", d, 64)
	pagesOnDisk(t, "P7.1: dirty again", d, pageOf(31), noughts, pageOf(32), pageOf(33))
	if d.Pending() != d.Writes() {
		t.Error("P7.1: Flush has made writes safe")
	}
}

func TestFlushWritesPagesRising(t *testing.T) {
	for range 10 { // a map's order is another one each time
		d := newDisk(t, 16*20)
		p := newPool(t, d, 0, 20, 20)
		for i := range 20 {
			kept(t, p, i*7%20, i*7%20+1, 0)
		}
		flushes(t, "P7.1", p, api.OK)
		wrote(t, "P7.1: 20 pages", d, 320)
		all := make([]bool, 320)
		for i := range all {
			all[i] = true
		}
		for n := range 21 {
			then := d.CutAt(16*n, all)
			for page := range 20 {
				want := noughts
				if page < n {
					want = pageOf(page + 1)
				}
				if !bytes.Equal(onDisk(t, then, 0, page), want) {
					t.Fatalf("P7.1: behind %d pages of Flush: the page %d on the disk", n, page)
				}
			}
		}
	}
}

func TestFlushWritesNothingIfOneIsBehind(t *testing.T) {
	for behind := range 4 {
		d := newDisk(t, 64)
		p := newPool(t, d, 0, 4, 4)
		for page := range 4 {
			mark := uint64(5)
			if page == behind {
				mark = 6
			}
			kept(t, p, page, page+1, mark)
		}
		p.Safe(5)
		flushes(t, "P7.2", p, api.ErrPoolBehind)
		wrote(t, "P7.2: one is behind", d, 0)
		// All are as dirty as they were.
		p.Safe(6)
		flushes(t, "P7.2", p, api.OK)
		wrote(t, "P7.1: none is behind", d, 64)
		pagesOnDisk(t, "P7.1", d, pageOf(1), pageOf(2), pageOf(3), pageOf(4))
	}
}

func TestFlushOfPinnedOnesThatAreBehind(t *testing.T) {
	d := newDisk(t, 64)
	p := newPool(t, d, 0, 4, 4)
	pins(t, "P7.1", p, 1, noughts)
	puts(t, "P7.1", p, 1, pageOf(1), 1, api.OK)
	flushes(t, "P7.2: at first the log is safe up to 0", p, api.ErrPoolBehind)
	wrote(t, "P7.2", d, 0)
	p.Safe(1)
	flushes(t, "P7.2", p, api.OK)
	wrote(t, "P7.2", d, 16)
}

func TestSafeIsNeverLess(t *testing.T) {
	d := newDisk(t, 64)
	p := newPool(t, d, 0, 4, 2)
	p.Safe(8)
	p.Safe(3)
	p.Safe(0)
	kept(t, p, 0, 1, 8)
	flushes(t, "P7.1: the log stays safe up to 8", p, api.OK)
	kept(t, p, 0, 2, 9)
	p.Safe(8)
	flushes(t, "P7.2: 9 is above 8", p, api.ErrPoolBehind)
	seen(t, p, 1, 2)
	holds(t, "P7.2: 0 is behind", p, 0, 2)
	wrote(t, "P7.2", d, 16)
	p.Safe(10)
	p.Safe(9)
	seen(t, p, 1, 3)
	holds(t, "P7.1: 0 is behind no more", p, 1, 3)
	wrote(t, "P7.1", d, 32)
}

func TestMarkIsTheGreatest(t *testing.T) {
	d := newDisk(t, 64)
	p := newPool(t, d, 0, 4, 1)
	pins(t, "P7.1", p, 0, noughts)
	puts(t, "P7.1", p, 0, pageOf(1), 9, api.OK)
	puts(t, "P7.1", p, 0, pageOf(2), 4, api.OK)
	unpins(t, "P7.1", p, 0, api.OK)
	pins(t, "P7.3: the last Put's bytes", p, 0, pageOf(2))
	puts(t, "P7.1", p, 0, pageOf(3), 0, api.OK)
	unpins(t, "P7.1", p, 0, api.OK)
	for _, safe := range []uint64{0, 4, 8} {
		p.Safe(safe)
		flushes(t, "P7.2: the greater mark counts", p, api.ErrPoolBehind)
		pinFails(t, "P7.2: the greater mark counts", p, 1, api.ErrPoolBehind)
	}
	wrote(t, "P7.2", d, 0)
	p.Safe(9)
	pins(t, "P7.1", p, 1, noughts)
	pagesOnDisk(t, "P7.3: the last Put's bytes", d, pageOf(3), noughts)
	wrote(t, "P7.1: once, not once a Put", d, 16)
}

func TestMarkGrows(t *testing.T) {
	d := newDisk(t, 32)
	p := newPool(t, d, 0, 2, 1)
	p.Safe(5)
	pins(t, "P7.1", p, 0, noughts)
	puts(t, "P7.1", p, 0, pageOf(1), 5, api.OK)
	puts(t, "P7.1", p, 0, pageOf(2), 6, api.OK)
	flushes(t, "P7.2: the greater mark counts", p, api.ErrPoolBehind)
	wrote(t, "P7.2", d, 0)
	p.Safe(6)
	flushes(t, "P7.1", p, api.OK)
	pagesOnDisk(t, "P7.3", d, pageOf(2))
}

func TestWhatWasWrittenIsThereForAnotherPool(t *testing.T) {
	d := newDisk(t, 64)
	p := newPool(t, d, 0, 4, 2)
	for page := range 4 {
		kept(t, p, page, page+60, 0)
	}
	flushes(t, "P7.1", p, api.OK)
	again := newPool(t, d, 0, 4, 4)
	for page := range 4 {
		pins(t, "P7.3: as on the disk", again, page, pageOf(page+60))
	}
	d.Sync()
	again = newPool(t, d.Cut(nil), 0, 4, 4)
	for page := range 4 {
		pins(t, "P7.3: as on the disk, behind a loss of power", again, page, pageOf(page+60))
	}
}
