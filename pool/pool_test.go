package pool

import (
	"bytes"
	"math"
	"slices"
	"testing"

	"stile/api"
	"stile/disk"
)

func newDisk(t *testing.T, sectors int) *disk.Disk {
	t.Helper()
	d, e := disk.New(sectors)
	if e != api.OK {
		t.Fatalf("a disk of %d sectors: %d", sectors, e)
	}
	return d
}

func newPool(t *testing.T, d *disk.Disk, first, pages, frames int) *Pool {
	t.Helper()
	p, e := New(d, first, pages, frames)
	if p == nil || e != api.OK {
		t.Fatalf("P7.1: New(%d, %d, %d): %v, %d", first, pages, frames, p, e)
	}
	return p
}

// pageOf is a page whose bytes tell a number and their places, so that no two of its sectors are the same.
func pageOf(n int) []byte {
	b := make([]byte, 2048)
	for i := range b {
		b[i] = byte(n + i + i/128)
	}
	return b
}

var noughts = make([]byte, 2048)

// onDisk is a page as a disk holds it.
func onDisk(t *testing.T, d *disk.Disk, first, page int) []byte {
	t.Helper()
	var out []byte
	for i := range 16 {
		b, e := d.Read(first + 16*page + i)
		if e != api.OK {
			t.Fatalf("Read(%d): %d", first+16*page+i, e)
		}
		out = append(out, b...)
	}
	return out
}

// laid writes a page to a disk, past any pool.
func laid(t *testing.T, d *disk.Disk, first, page int, b []byte) {
	t.Helper()
	for i := range 16 {
		if e := d.Write(first+16*page+i, b[128*i:128*i+128]); e != api.OK {
			t.Fatalf("Write(%d): %d", first+16*page+i, e)
		}
	}
}

func pins(t *testing.T, what string, p *Pool, page int, want []byte) {
	t.Helper()
	b, e := p.Pin(page)
	if e != api.OK {
		t.Fatalf("%s: Pin(%d): %d", what, page, e)
	}
	if !bytes.Equal(b, want) {
		t.Errorf("%s: Pin(%d) tells %d bytes that are not the page's", what, page, len(b))
	}
}

func pinFails(t *testing.T, what string, p *Pool, page int, want api.Errno) {
	t.Helper()
	if b, e := p.Pin(page); len(b) != 0 || e != want {
		t.Errorf("%s: Pin(%d): %d bytes, %d, not none and %d", what, page, len(b), e, want)
	}
}

func puts(t *testing.T, what string, p *Pool, page int, b []byte, mark uint64, want api.Errno) {
	t.Helper()
	if e := p.Put(page, b, mark); e != want {
		t.Errorf("%s: Put(%d, %d bytes, %d): %d, not %d", what, page, len(b), mark, e, want)
	}
}

func unpins(t *testing.T, what string, p *Pool, page int, want api.Errno) {
	t.Helper()
	if e := p.Unpin(page); e != want {
		t.Errorf("%s: Unpin(%d): %d, not %d", what, page, e, want)
	}
}

func flushes(t *testing.T, what string, p *Pool, want api.Errno) {
	t.Helper()
	if e := p.Flush(); e != want {
		t.Errorf("%s: Flush: %d, not %d", what, e, want)
	}
}

func holds(t *testing.T, what string, p *Pool, want ...int) {
	t.Helper()
	if got := p.Held(); !slices.Equal(got, want) {
		t.Errorf("%s: Held is %v, not %v", what, got, want)
	}
}

func wrote(t *testing.T, what string, d *disk.Disk, want int) {
	t.Helper()
	if d.Writes() != want {
		t.Errorf("%s: %d sectors were written, not %d", what, d.Writes(), want)
	}
}

// seen has a page pinned and unpinned, which is a use of it.
func seen(t *testing.T, p *Pool, pages ...int) {
	t.Helper()
	for _, page := range pages {
		if _, e := p.Pin(page); e != api.OK {
			t.Fatalf("P7.1: Pin(%d): %d", page, e)
		}
		unpins(t, "P7.1", p, page, api.OK)
	}
}

// kept has a page put and unpinned.
func kept(t *testing.T, p *Pool, page, n int, mark uint64) {
	t.Helper()
	if _, e := p.Pin(page); e != api.OK {
		t.Fatalf("P7.1: Pin(%d): %d", page, e)
	}
	puts(t, "P7.1", p, page, pageOf(n), mark, api.OK)
	unpins(t, "P7.1", p, page, api.OK)
}

func TestNew(t *testing.T) {
	d := newDisk(t, 4096)
	for _, c := range []struct {
		d                    *disk.Disk
		first, pages, frames int
		want                 api.Errno
	}{
		{nil, 0, 1, 1, api.ErrArg},
		{d, -1, 1, 1, api.ErrArg},
		{d, math.MinInt, 1, 1, api.ErrArg},
		{d, 0, 1, 0, api.ErrArg},
		{d, 0, 1, -1, api.ErrArg},
		{d, 0, 1, 65, api.ErrArg},
		{d, 0, 1, math.MaxInt, api.ErrArg},
		{d, 0, 0, 1, api.ErrArg},
		{d, 0, -1, 1, api.ErrArg},
		{d, 0, 257, 1, api.ErrArg},
		{d, 0, math.MaxInt, 1, api.ErrArg},
		{d, 0, math.MinInt, 1, api.ErrArg},
		// ErrArg is named first.
		{d, 4096, 257, 1, api.ErrArg},
		{d, 4096, 1, 0, api.ErrArg},
		{d, 4096, 0, 1, api.ErrArg},
		{nil, 4096, 1, 1, api.ErrArg},
		{d, 0, 1, 1, api.OK},
		{d, 0, 1, 64, api.OK},
		{d, 0, 256, 1, api.OK},
		{d, 0, 256, 64, api.OK},
		{d, 1, 256, 64, api.ErrPoolRange},
		{d, 1, 255, 64, api.OK},
		{d, 16, 255, 64, api.OK},
		{d, 17, 255, 64, api.ErrPoolRange},
		{d, 4080, 1, 1, api.OK},
		{d, 4081, 1, 1, api.ErrPoolRange},
		{d, 4096, 1, 1, api.ErrPoolRange},
		{d, math.MaxInt, 1, 1, api.ErrPoolRange},
		{d, math.MaxInt, 256, 64, api.ErrPoolRange},
		{d, math.MaxInt - 15, 1, 1, api.ErrPoolRange},
		{newDisk(t, 1), 0, 1, 1, api.ErrPoolRange},
		{newDisk(t, 15), 0, 1, 1, api.ErrPoolRange},
		{newDisk(t, 16), 0, 1, 1, api.OK},
		{newDisk(t, 16), 1, 1, 1, api.ErrPoolRange},
		{newDisk(t, 47), 0, 3, 1, api.ErrPoolRange},
		{newDisk(t, 48), 0, 3, 1, api.OK},
		{newDisk(t, 52), 5, 3, 1, api.ErrPoolRange},
		{newDisk(t, 53), 5, 3, 1, api.OK},
	} {
		p, e := New(c.d, c.first, c.pages, c.frames)
		if e != c.want || (p != nil) != (c.want == api.OK) {
			t.Errorf("P7.1: New(.., %d, %d, %d): %v, %d, not %d", c.first, c.pages, c.frames, p != nil, e, c.want)
		}
		holds(t, "P7.1: a new pool's frames are free", p)
		wrote(t, "P7.1: New", c.d, 0)
	}
}

func TestPinOfEachPage(t *testing.T) {
	const first = 5
	d := newDisk(t, first+16*3+2)
	for i := range d.Size() {
		d.Write(i, bytes.Repeat([]byte{byte(i + 1)}, 128))
	}
	p := newPool(t, d, first, 3, 3)
	before := d.Writes()
	for _, page := range []int{math.MinInt, -1, 3, 4, math.MaxInt} {
		pinFails(t, "P7.1: there is no such page", p, page, api.ErrPoolRange)
		unpins(t, "P7.1: there is no such page", p, page, api.ErrPoolPin)
		puts(t, "P7.1: there is no such page", p, page, pageOf(1), 0, api.ErrPoolPin)
	}
	holds(t, "P7.1: there is no such page", p)
	for _, page := range []int{2, 0, 1} {
		var want []byte
		for i := range 16 {
			want = append(want, bytes.Repeat([]byte{byte(first + 16*page + i + 1)}, 128)...)
		}
		pins(t, "P7.3: as it is on the disk", p, page, want)
	}
	holds(t, "P7.1: Held is rising", p, 0, 1, 2)
	pinFails(t, "P7.1: ErrPoolRange whatever the frames", p, 3, api.ErrPoolRange)
	wrote(t, "P7.1: Pin writes nothing", d, before)
}

func TestWhereAPageIsWritten(t *testing.T) {
	const first = 3
	d := newDisk(t, 64)
	p := newPool(t, d, first, 3, 3)
	kept(t, p, 1, 7, 0)
	flushes(t, "P7.1", p, api.OK)
	for i := range d.Size() {
		want := make([]byte, 128)
		if at := i - first - 16; at >= 0 && at < 16 {
			want = pageOf(7)[128*at : 128*at+128]
		}
		if b, _ := d.Read(i); !bytes.Equal(b, want) {
			t.Errorf("P7.1: the page 1 of a pool from sector 3 on: sector %d is wrong", i)
		}
	}
	wrote(t, "P7.1: one page", d, 16)
}

func TestExample(t *testing.T) {
	d := newDisk(t, 64)
	p := newPool(t, d, 0, 4, 1)
	pins(t, "P7.1: the example", p, 0, noughts)
	pinFails(t, "P7.1: the example", p, 1, api.ErrPoolFull)
	puts(t, "P7.1: the example", p, 0, pageOf(9), 5, api.OK)
	unpins(t, "P7.1: the example", p, 0, api.OK)
	pinFails(t, "P7.1: the example", p, 1, api.ErrPoolBehind)
	wrote(t, "P7.2: the example", d, 0)
	holds(t, "P7.1: the example", p, 0)
	p.Safe(5)
	wrote(t, "P7.1: Safe writes nothing", d, 0)
	pins(t, "P7.1: the example", p, 1, noughts)
	if !bytes.Equal(onDisk(t, d, 0, 0), pageOf(9)) {
		t.Error("P7.1: the example: the page 0 was not written")
	}
	holds(t, "P7.1: the example", p, 1)
}

func TestHowOftenPinned(t *testing.T) {
	d := newDisk(t, 64)
	p := newPool(t, d, 0, 4, 1)
	pins(t, "P7.1: once", p, 0, noughts)
	pins(t, "P7.1: once more", p, 0, noughts)
	unpins(t, "P7.1: once less", p, 0, api.OK)
	pinFails(t, "P7.1: it is pinned still", p, 1, api.ErrPoolFull)
	puts(t, "P7.1: it is pinned still", p, 0, pageOf(3), 0, api.OK)
	unpins(t, "P7.1: once less", p, 0, api.OK)
	unpins(t, "P7.1: it is not pinned", p, 0, api.ErrPoolPin)
	holds(t, "P7.1: it is held still", p, 0)
	puts(t, "P7.1: it is not pinned", p, 0, pageOf(4), 0, api.ErrPoolPin)
	// An Unpin that failed took nothing away: one Pin is one again.
	pins(t, "P7.3: as put", p, 0, pageOf(3))
	pinFails(t, "P7.1: it is pinned again", p, 1, api.ErrPoolFull)
	unpins(t, "P7.1: once less", p, 0, api.OK)
	unpins(t, "P7.1: it is not pinned", p, 0, api.ErrPoolPin)
	pins(t, "P7.1: the frame is for another", p, 1, noughts)
	unpins(t, "P7.1: no frame holds it", p, 0, api.ErrPoolPin)
	puts(t, "P7.1: no frame holds it", p, 0, pageOf(4), 0, api.ErrPoolPin)
	unpins(t, "P7.1: pinned once when it came", p, 1, api.OK)
	unpins(t, "P7.1: pinned once when it came", p, 1, api.ErrPoolPin)
	pins(t, "P7.3: as put", p, 0, pageOf(3))
}

func TestPinnedManyTimes(t *testing.T) {
	p := newPool(t, newDisk(t, 32), 0, 2, 1)
	for range 1000 {
		pins(t, "P7.1", p, 1, noughts)
	}
	for range 1000 {
		pinFails(t, "P7.1: it is pinned still", p, 0, api.ErrPoolFull)
		unpins(t, "P7.1", p, 1, api.OK)
	}
	pins(t, "P7.1: it is not pinned any more", p, 0, noughts)
}

func TestLengthOfWhatIsPut(t *testing.T) {
	d := newDisk(t, 64)
	p := newPool(t, d, 0, 4, 2)
	pins(t, "P7.1", p, 0, noughts)
	wrong := [][]byte{nil, {}, {1}, make([]byte, 2047), make([]byte, 2049), make([]byte, 4096)}
	for _, b := range wrong {
		puts(t, "P7.1: not 2048 bytes", p, 0, b, 99, api.ErrArg)
		puts(t, "P7.1: ErrPoolPin is named first", p, 1, b, 99, api.ErrPoolPin)
		puts(t, "P7.1: ErrPoolPin is named first", p, -1, b, 99, api.ErrPoolPin)
	}
	// Nothing came of it: the frame is neither dirty nor has it a mark.
	flushes(t, "P7.1: a Put that failed", p, api.OK)
	wrote(t, "P7.1: a Put that failed", d, 0)
	pins(t, "P7.3: a Put that failed", p, 0, noughts)
	puts(t, "P7.1: 2048 bytes", p, 0, pageOf(1), 0, api.OK)
	for _, b := range wrong {
		puts(t, "P7.1: not 2048 bytes", p, 0, b, 99, api.ErrArg)
	}
	pins(t, "P7.3: as the last Put that went through", p, 0, pageOf(1))
	for range 3 {
		unpins(t, "P7.1", p, 0, api.OK)
	}
	for _, b := range append(wrong, pageOf(2)) {
		puts(t, "P7.1: held and not pinned", p, 0, b, 99, api.ErrPoolPin)
	}
	pins(t, "P7.3: a Put that failed", p, 0, pageOf(1))
	flushes(t, "P7.2: a Put that failed leaves the mark", p, api.OK)
}

func TestWhatIsHandedInAndOut(t *testing.T) {
	d := newDisk(t, 64)
	p := newPool(t, d, 0, 4, 1)
	spoil := func(b []byte) {
		for i := range b {
			b[i] = 0xee
		}
	}
	answer, _ := p.Pin(0)
	spoil(answer)
	pins(t, "P7.3: what Pin answered of the disk was changed", p, 0, noughts)
	if !bytes.Equal(onDisk(t, d, 0, 0), noughts) {
		t.Error("P7.3: what Pin answered was changed, and the disk with it")
	}

	memory := append(pageOf(4), 1, 2, 3)
	given := memory[:2048]
	puts(t, "P7.1", p, 0, given, 0, api.OK)
	if !bytes.Equal(memory, append(pageOf(4), 1, 2, 3)) {
		t.Error("P7.1: Put has written into what it was given")
	}
	spoil(memory)
	pins(t, "P7.3: what Put was given was changed", p, 0, pageOf(4))
	one, _ := p.Pin(0)
	two, _ := p.Pin(0)
	spoil(one[:cap(one)])
	if !bytes.Equal(two, pageOf(4)) {
		t.Error("P7.3: two answers share memory")
	}
	pins(t, "P7.3: what Pin answered was changed", p, 0, pageOf(4))
	// What an earlier Pin told stays as it was told.
	puts(t, "P7.1", p, 0, pageOf(5), 0, api.OK)
	if !bytes.Equal(two, pageOf(4)) {
		t.Error("P7.3: a Put changed what Pin had answered")
	}
	// What Pin told may be put again, and changed behind that.
	puts(t, "P7.1", p, 0, two, 0, api.OK)
	spoil(two)
	flushes(t, "P7.1", p, api.OK)
	if !bytes.Equal(onDisk(t, d, 0, 0), pageOf(4)) {
		t.Error("P7.3: what was put is not what was written")
	}

	held := p.Held()
	held[0] = 3
	holds(t, "P7.1: what Held answered was changed", p, 0)
	p.Held()[0] = 2
	unpins(t, "P7.1", p, 3, api.ErrPoolPin)
}

func TestNil(t *testing.T) {
	var p *Pool
	for _, page := range []int{-1, 0, 1} {
		pinFails(t, "P7.1: nil", p, page, api.ErrArg)
		puts(t, "P7.1: nil", p, page, pageOf(1), 1, api.ErrArg)
		puts(t, "P7.1: nil", p, page, nil, 1, api.ErrArg)
		unpins(t, "P7.1: nil", p, page, api.ErrArg)
	}
	p.Safe(0)
	p.Safe(math.MaxUint64)
	flushes(t, "P7.1: nil", p, api.ErrArg)
	holds(t, "P7.1: nil", p)
}

func TestPoolsOfOneDisk(t *testing.T) {
	d := newDisk(t, 64)
	one, two := newPool(t, d, 0, 2, 2), newPool(t, d, 32, 2, 2)
	kept(t, one, 1, 1, 7)
	kept(t, two, 0, 2, 7)
	one.Safe(7)
	flushes(t, "P7.2: each pool has a log of its own", two, api.ErrPoolBehind)
	flushes(t, "P7.1", one, api.OK)
	for page, want := range [][]byte{noughts, pageOf(1), noughts, noughts} {
		if !bytes.Equal(onDisk(t, d, 0, page), want) {
			t.Errorf("P7.2: two pools: the page %d on the disk", page)
		}
	}
	holds(t, "P7.1: two pools", one, 1)
	holds(t, "P7.1: two pools", two, 0)
}
