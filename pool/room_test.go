package pool

import (
	"bytes"
	"math"
	"testing"

	"stile/api"
)

func TestFreeFramesAreTakenFirst(t *testing.T) {
	d := newDisk(t, 4096)
	p := newPool(t, d, 0, 256, 64)
	for page := range 64 {
		kept(t, p, 255-page, page, 0)
	}
	wrote(t, "P7.1: as long as there are free frames none goes", d, 0)
	want := make([]int, 64)
	for i := range want {
		want[i] = 192 + i
	}
	holds(t, "P7.1: 64 frames", p, want...)
	seen(t, p, 0)
	want = append([]int{0}, want[:63]...)
	holds(t, "P7.1: the 65th page takes the frame of the first", p, want...)
	wrote(t, "P7.1: one page went", d, 16)
}

func TestOneFrameIsOne(t *testing.T) {
	p := newPool(t, newDisk(t, 64), 0, 4, 1)
	for page := range 4 {
		seen(t, p, page)
		holds(t, "P7.1: one frame", p, page)
	}
}

func TestWhichGoes(t *testing.T) {
	// Each time three frames hold 0, 1 and 2, used in this order, and none is pinned.
	for _, c := range []struct {
		what string
		then func(p *Pool)
		want []int
	}{
		{"none was used since", func(p *Pool) {}, []int{1, 2, 3}},
		{"Pin and Unpin are uses", func(p *Pool) { seen(t, p, 0) }, []int{0, 2, 3}},
		{"Pin and Unpin are uses", func(p *Pool) { seen(t, p, 0, 1) }, []int{0, 1, 3}},
		{"all were used again", func(p *Pool) { seen(t, p, 2, 1, 0) }, []int{0, 1, 3}},
		{"all were used again", func(p *Pool) { seen(t, p, 1, 0, 2) }, []int{0, 2, 3}},
		{"a Put that failed is no use", func(p *Pool) { p.Put(0, pageOf(0), 0) }, []int{1, 2, 3}},
		{"an Unpin that failed is no use", func(p *Pool) { p.Unpin(0) }, []int{1, 2, 3}},
		{"a Pin that failed is no use", func(p *Pool) { p.Pin(4); p.Pin(-1) }, []int{1, 2, 3}},
		{"Held, Safe and Flush are no uses", func(p *Pool) { p.Held(); p.Safe(3); p.Flush() }, []int{1, 2, 3}},
	} {
		p := newPool(t, newDisk(t, 64), 0, 4, 3)
		seen(t, p, 0, 1, 2)
		c.then(p)
		seen(t, p, 3)
		holds(t, "P7.1: "+c.what, p, c.want...)
	}
}

// A page goes only behind its last Unpin, so that its Pin and Put are never its last use by then.
func TestLastUnpinTells(t *testing.T) {
	p := newPool(t, newDisk(t, 64), 0, 4, 2)
	pins(t, "P7.1", p, 0, noughts)
	pins(t, "P7.1", p, 0, noughts)
	pins(t, "P7.1", p, 1, noughts)
	unpins(t, "P7.1", p, 0, api.OK)
	puts(t, "P7.1", p, 1, pageOf(1), 0, api.OK)
	unpins(t, "P7.1", p, 1, api.OK)
	puts(t, "P7.1", p, 0, pageOf(2), 0, api.OK)
	puts(t, "P7.1: a wrong Put of a pinned page", p, 0, nil, 0, api.ErrArg)
	unpins(t, "P7.1", p, 0, api.OK)
	puts(t, "P7.1: 1 is not pinned", p, 1, pageOf(3), 0, api.ErrPoolPin)
	unpins(t, "P7.1: 1 is not pinned", p, 1, api.ErrPoolPin)
	pins(t, "P7.1", p, 2, noughts)
	holds(t, "P7.1: the last Unpin tells", p, 0, 2)
}

func TestUseCountsInOrder(t *testing.T) {
	for _, order := range [][]int{{0, 1, 2}, {0, 2, 1}, {1, 0, 2}, {1, 2, 0}, {2, 0, 1}, {2, 1, 0}} {
		p := newPool(t, newDisk(t, 96), 0, 6, 3)
		for page := range 3 {
			pins(t, "P7.1", p, page, noughts)
		}
		for _, page := range order {
			unpins(t, "P7.1", p, page, api.OK)
		}
		left := []int{0, 1, 2}
		for i, gone := range order {
			pins(t, "P7.1", p, 3+i, noughts)
			for at, page := range left {
				if page == gone {
					left = append(left[:at:at], left[at+1:]...)
					break
				}
			}
			left = append(left, 3+i)
			holds(t, "P7.1: the one used longest ago goes", p, left...)
		}
		pinFails(t, "P7.1: all are pinned", p, 0, api.ErrPoolFull)
	}
}

func TestAFrameThatCameIsUsed(t *testing.T) {
	p := newPool(t, newDisk(t, 64), 0, 4, 2)
	seen(t, p, 0, 1, 2, 0)
	holds(t, "P7.1: the page that came last stays", p, 0, 2)
	seen(t, p, 3)
	holds(t, "P7.1: the page that came last stays", p, 0, 3)
}

func TestPinnedAndBehindArePassedOver(t *testing.T) {
	d := newDisk(t, 96)
	p := newPool(t, d, 0, 6, 4)
	pins(t, "P7.1", p, 0, noughts)
	kept(t, p, 1, 11, 6)
	kept(t, p, 2, 12, 5)
	seen(t, p, 3)
	p.Safe(5)
	seen(t, p, 4)
	holds(t, "P7.1: of 0 pinned, 1 behind, 2 and 3", p, 0, 1, 3, 4)
	wrote(t, "P7.1: 2 was dirty", d, 16)
	if !bytes.Equal(onDisk(t, d, 0, 2), pageOf(12)) {
		t.Error("P7.1: the page 2 was not written as it was put")
	}
	seen(t, p, 5)
	holds(t, "P7.1: of 0 pinned, 1 behind, 3 and 4", p, 0, 1, 4, 5)
	wrote(t, "P7.1: 3 was not dirty", d, 16)
	p.Safe(6)
	seen(t, p, 2)
	holds(t, "P7.1: 1 is behind no more", p, 0, 2, 4, 5)
	wrote(t, "P7.1: 1 was dirty", d, 32)
	unpins(t, "P7.1", p, 0, api.OK)
	seen(t, p, 1)
	holds(t, "P7.1: 0 was just used, by Unpin", p, 0, 1, 2, 5)
	wrote(t, "P7.1: 4 was not dirty", d, 32)
	pins(t, "P7.3: as put", p, 1, pageOf(11))
	pins(t, "P7.3: as put", p, 2, pageOf(12))
}

func TestBehindAgainstFull(t *testing.T) {
	d := newDisk(t, 96)
	p := newPool(t, d, 0, 6, 3)
	for page := range 3 {
		pins(t, "P7.1", p, page, noughts)
		puts(t, "P7.1", p, page, pageOf(page), uint64(10+page), api.OK)
	}
	pinFails(t, "P7.1: all are pinned, and behind", p, 3, api.ErrPoolFull)
	unpins(t, "P7.1", p, 2, api.OK)
	pinFails(t, "P7.1: one is not pinned", p, 3, api.ErrPoolBehind)
	unpins(t, "P7.1", p, 1, api.OK)
	unpins(t, "P7.1", p, 0, api.OK)
	pinFails(t, "P7.1: none is pinned, and all are behind", p, 3, api.ErrPoolBehind)
	p.Safe(9)
	pinFails(t, "P7.2: the log is one mark short", p, 3, api.ErrPoolBehind)
	holds(t, "P7.1: Pin failed", p, 0, 1, 2)
	wrote(t, "P7.2: Pin failed", d, 0)
	pins(t, "P7.1: a page that is held needs no frame", p, 1, pageOf(1))
	p.Safe(10)
	pins(t, "P7.1: the mark is the log's", p, 3, noughts)
	holds(t, "P7.1: 0 alone may go", p, 1, 2, 3)
	wrote(t, "P7.2: 0 alone was written", d, 16)
	pinFails(t, "P7.1: 1 and 3 are pinned, 2 is behind", p, 4, api.ErrPoolBehind)
	p.Safe(11)
	pinFails(t, "P7.1: 1 and 3 are pinned, 2 is behind", p, 4, api.ErrPoolBehind)
	pins(t, "P7.1", p, 2, pageOf(2))
	pinFails(t, "P7.1: all are pinned", p, 4, api.ErrPoolFull)
	pinFails(t, "P7.1: ErrPoolRange is named first", p, 6, api.ErrPoolRange)
}

func TestWrittenOnlyIfDirty(t *testing.T) {
	d := newDisk(t, 64)
	p := newPool(t, d, 0, 4, 1)
	laid(t, d, 0, 0, pageOf(50))
	before := d.Writes()
	pins(t, "P7.3: as on the disk", p, 0, pageOf(50))
	// Another hand writes to the disk: what the frame holds is told, and, not being dirty, is not written over it.
	laid(t, d, 0, 0, pageOf(51))
	before += 16
	pins(t, "P7.3: the frame's", p, 0, pageOf(50))
	flushes(t, "P7.1: none is dirty", p, api.OK)
	unpins(t, "P7.1", p, 0, api.OK)
	unpins(t, "P7.1", p, 0, api.OK)
	seen(t, p, 1)
	wrote(t, "P7.1: none is dirty", d, before)
	pins(t, "P7.3: as it is on the disk now", p, 0, pageOf(51))

	// The same bytes once more make it dirty all the same.
	puts(t, "P7.1", p, 0, pageOf(51), 0, api.OK)
	unpins(t, "P7.1", p, 0, api.OK)
	seen(t, p, 1)
	wrote(t, "P7.1: it was dirty", d, before+16)
	// It comes back clean.
	seen(t, p, 0, 1)
	wrote(t, "P7.1: it came back and was not put to", d, before+16)
	if d.Pending() != d.Writes() {
		t.Error("P7.1: the pool has made writes safe")
	}
}

func TestMarkIsNoughtAgainWhenAPageComesBack(t *testing.T) {
	d := newDisk(t, 64)
	p := newPool(t, d, 0, 4, 1)
	p.Safe(100)
	kept(t, p, 0, 1, 100)
	seen(t, p, 1)
	kept(t, p, 0, 2, 3)
	flushes(t, "P7.2: 3 is not above 100", p, api.OK)
	pins(t, "P7.3", p, 0, pageOf(2))
	puts(t, "P7.1", p, 0, pageOf(3), 101, api.OK)
	flushes(t, "P7.2: 101 is above 100", p, api.ErrPoolBehind)
	unpins(t, "P7.1", p, 0, api.OK)
	pinFails(t, "P7.2: 101 is above 100", p, 1, api.ErrPoolBehind)
}

func TestAFrameFreedForAPageHasNothingOfTheLast(t *testing.T) {
	d := newDisk(t, 64)
	p := newPool(t, d, 0, 4, 1)
	p.Safe(7)
	kept(t, p, 0, 1, 7)
	pins(t, "P7.3: not the last page's bytes", p, 1, noughts)
	before := d.Writes()
	flushes(t, "P7.1: not dirty", p, api.OK)
	wrote(t, "P7.1: not dirty", d, before)
	unpins(t, "P7.1: pinned once", p, 1, api.OK)
	unpins(t, "P7.1: pinned once", p, 1, api.ErrPoolPin)
}

func TestGreatestMarks(t *testing.T) {
	d := newDisk(t, 64)
	p := newPool(t, d, 0, 4, 1)
	kept(t, p, 0, 1, math.MaxUint64)
	p.Safe(math.MaxUint64 - 1)
	pinFails(t, "P7.2: the greatest mark", p, 1, api.ErrPoolBehind)
	flushes(t, "P7.2: the greatest mark", p, api.ErrPoolBehind)
	wrote(t, "P7.2: the greatest mark", d, 0)
	p.Safe(math.MaxUint64)
	flushes(t, "P7.2: the greatest mark", p, api.OK)
	wrote(t, "P7.2: the greatest mark", d, 16)
}
