package heap

import (
	"bytes"
	"math/rand"
	"testing"

	"stile/api"
	"stile/pool"
)

// model is a heap that is written as the chapter reads: records by page and slot.
type model [][][]byte

func (m model) room(page int) int {
	room := 2046
	for _, record := range m[page] {
		room -= 4 + len(record)
	}
	return room
}

func (m model) insert(b []byte) (int, api.Errno) {
	if len(b) < 1 || len(b) > 1500 {
		return 0, api.ErrHeapLong
	}
	for page := range m {
		free := -1
		for slot := len(m[page]) - 1; slot >= 0; slot-- {
			if m[page][slot] == nil {
				free = slot
			}
		}
		switch {
		case free >= 0 && m.room(page) >= len(b):
			m[page][free] = b
			return 256*page + free, api.OK
		case free < 0 && len(m[page]) < 256 && m.room(page) >= len(b)+4:
			m[page] = append(m[page], b)
			return 256*page + len(m[page]) - 1, api.OK
		}
	}
	return 0, api.ErrHeapFull
}

func (m model) find(id int) *[]byte {
	if id < 0 || id/256 >= len(m) || id%256 >= len(m[id/256]) || m[id/256][id%256] == nil {
		return nil
	}
	return &m[id/256][id%256]
}

func (m model) update(id int, b []byte) api.Errno {
	record := m.find(id)
	switch {
	case record == nil:
		return api.ErrHeapNone
	case len(b) < 1 || len(b) > 1500:
		return api.ErrHeapLong
	case m.room(id/256)+len(*record) < len(b):
		return api.ErrHeapFull
	}
	*record = b
	return api.OK
}

func (m model) delete(id int) api.Errno {
	record := m.find(id)
	if record == nil {
		return api.ErrHeapNone
	}
	*record = nil
	return api.OK
}

func (m model) scan() []int {
	var ids []int
	for id := range 256 * len(m) {
		if m.find(id) != nil {
			ids = append(ids, id)
		}
	}
	return ids
}

// formIs asks whether a page of the pool has the chapter's form, and the model's slots.
func formIs(t *testing.T, p *pool.Pool, page int, slots [][]byte) {
	t.Helper()
	b, e := p.Pin(page)
	if e != api.OK {
		t.Fatalf("Pin(%d): %d", page, e)
	}
	p.Unpin(page)
	two := func(at int) int { return int(b[at]) + 256*int(b[at+1]) }
	if two(0) != len(slots) {
		t.Fatalf("P8.1: the page %d has %d slots, not %d", page, two(0), len(slots))
	}
	used := make([]bool, 2048)
	for slot, record := range slots {
		place, length := two(2+4*slot), two(4+4*slot)
		if length != len(record) {
			t.Fatalf("P8.1: the page %d, slot %d: the length %d, not %d", page, slot, length, len(record))
		}
		if length == 0 {
			continue
		}
		if place < 2+4*len(slots) || place+length > 2048 || !bytes.Equal(b[place:place+length], record) {
			t.Fatalf("P8.1: the page %d, slot %d: not its record at %d", page, slot, place)
		}
		for i := range length {
			if used[place+i] {
				t.Fatalf("P8.1: the page %d, slot %d: another record stands there too", page, slot)
			}
			used[place+i] = true
		}
	}
}

func same(t *testing.T, p *pool.Pool, h *Heap, m model) {
	t.Helper()
	ids := m.scan()
	scans(t, "P8.1", h, ids...)
	for _, id := range ids {
		gets(t, "P8.2", h, id, *m.find(id))
	}
	for page := range m {
		formIs(t, p, page, m[page])
	}
	unpinned(t, "a call", p, len(m))
}

// step does one thing to both, told by three numbers.
func step(t *testing.T, h *Heap, m model, what, id, length int) {
	t.Helper()
	b := bytesOf(id*31+length, length)
	switch what % 8 {
	case 0, 1, 2, 3:
		want, errno := m.insert(b)
		inserts(t, "P8.1", h, b, want, errno)
	case 4, 5:
		updates(t, "P8.1", h, id, b, m.update(id, b))
	case 6:
		deletes(t, "P8.1", h, id, m.delete(id))
	case 7:
		if record := m.find(id); record != nil {
			gets(t, "P8.2", h, id, *record)
		} else {
			getFails(t, "P8.1", h, id, api.ErrHeapNone)
		}
	}
}

func TestAgainstAModel(t *testing.T) {
	for seed := range 60 {
		r := rand.New(rand.NewSource(int64(seed)))
		pages, frames := 1+r.Intn(4), 1+r.Intn(3)
		p := newPool(t, pages, frames)
		h, m := newHeap(t, p, pages), make(model, pages)
		longest := []int{2, 20, 300, 1510}[r.Intn(4)]
		for i := range 600 {
			id := r.Intn(pages*256+2) - 1
			if ids := m.scan(); len(ids) > 0 && r.Intn(4) > 0 {
				id = ids[r.Intn(len(ids))]
			}
			step(t, h, m, r.Intn(8), id, r.Intn(longest+1))
			if i%50 == 0 {
				same(t, p, h, m)
			}
		}
		same(t, p, h, m)
		if t.Failed() {
			t.Fatalf("seed %d", seed)
		}
	}
}

func FuzzAgainstAModel(f *testing.F) {
	f.Add([]byte{0, 0, 3, 0, 0, 2, 6, 0, 0, 0, 0, 1, 7, 5, 0, 4, 1, 250})
	f.Add(bytes.Repeat([]byte{1, 0, 200}, 30))
	f.Fuzz(func(t *testing.T, steps []byte) {
		p := newPool(t, 2, 1)
		h, m := newHeap(t, p, 2), make(model, 2)
		for ; len(steps) >= 3; steps = steps[3:] {
			id := int(steps[1])%16 + 256*(int(steps[1])/16%3)
			step(t, h, m, int(steps[0]), id-1, int(steps[2])*6)
		}
		same(t, p, h, m)
	})
}

// Other hands may put anything to a page: no call panics for it, and the other pages' records stay.
func TestPagesThatAreNone(t *testing.T) {
	for seed := range 200 {
		r := rand.New(rand.NewSource(int64(seed)))
		p := newPool(t, 2, 2)
		h := newHeap(t, p, 2)
		inserts(t, "P8.1", h, bytesOf(1, 1500), 0, api.OK)
		inserts(t, "P8.1", h, bytesOf(2, 1500), 256, api.OK)
		wild := make([]byte, 2048)
		r.Read(wild)
		switch seed % 4 {
		case 0:
			wild = bytes.Repeat([]byte{0xff}, 2048)
		case 1:
			// Slots within the page, that share their bytes.
			for at := 2; at < 1026; at += 2 {
				wild[at+1] &= 3
			}
		}
		fill(t, p, 0, wild, 0)
		for range 300 {
			id, b := r.Intn(256), bytesOf(3, r.Intn(1501))
			h.Get(id)
			switch r.Intn(4) {
			case 0:
				h.Update(id, b)
			case 1:
				h.Delete(id)
			case 2:
				if got, e := h.Insert(b); e == api.OK && got >= 256 {
					deletes(t, "P8.1", h, got, api.OK)
				}
			}
		}
		h.Scan()
		gets(t, "P8.2: beside a page that is none", h, 256, bytesOf(2, 1500))
		unpinned(t, "a page that is none", p, 2)
	}
}

func TestASlotBeyondThePage(t *testing.T) {
	p := newPool(t, 1, 1)
	h := newHeap(t, p, 1)
	wild := make([]byte, 2048)
	copy(wild, []byte{3, 0, 0xff, 7, 2, 0, 0xff, 7, 1, 0, 0xff, 0xff, 0xff, 0xff})
	fill(t, p, 0, wild, 0)
	getFails(t, "P8.1: a byte beyond the page", h, 0, api.ErrHeapNone)
	gets(t, "P8.1: the page's last byte", h, 1, []byte{0})
	scans(t, "P8.1: beyond the page", h, 1)
}
