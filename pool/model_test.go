package pool

import (
	"bytes"
	"math/rand"
	"slices"
	"testing"

	"stile/api"
	"stile/disk"
)

// modelFrame is a frame of a pool that is written as the chapter reads.
type modelFrame struct {
	page, content, pins int
	dirty               bool
	mark                uint64
}

// model is a pool whose frames stand in the order of their last uses, and whose pages are told by one number each.
type model struct {
	frames int
	used   []modelFrame
	disk   []int
	// Which pages were written, one behind the other.
	written []int
	safe    uint64
}

func (m *model) at(page int) int {
	return slices.IndexFunc(m.used, func(f modelFrame) bool { return f.page == page })
}

// use brings a frame to the end.
func (m *model) use(at int) {
	f := m.used[at]
	m.used = append(slices.Delete(m.used, at, at+1), f)
}

func (m *model) write(f modelFrame) {
	m.disk[f.page] = f.content
	m.written = append(m.written, f.page)
}

func (m *model) pin(page int) (int, api.Errno) {
	if page < 0 || page >= len(m.disk) {
		return 0, api.ErrPoolRange
	}
	at := m.at(page)
	if at < 0 {
		if len(m.used) == m.frames {
			errno := api.ErrPoolFull
			goes := -1
			for i, f := range m.used {
				if f.pins > 0 {
					continue
				}
				if f.dirty && f.mark > m.safe {
					errno = api.ErrPoolBehind
					continue
				}
				goes = i
				break
			}
			if goes < 0 {
				return 0, errno
			}
			if m.used[goes].dirty {
				m.write(m.used[goes])
			}
			m.used = slices.Delete(m.used, goes, goes+1)
		}
		m.used = append(m.used, modelFrame{page: page, content: m.disk[page]})
		at = len(m.used) - 1
	}
	m.used[at].pins++
	content := m.used[at].content
	m.use(at)
	return content, api.OK
}

func (m *model) put(page, content, length int, mark uint64) api.Errno {
	at := m.at(page)
	if at < 0 || m.used[at].pins == 0 {
		return api.ErrPoolPin
	}
	if length != 2048 {
		return api.ErrArg
	}
	f := &m.used[at]
	f.content, f.dirty = content, true
	if mark > f.mark {
		f.mark = mark
	}
	m.use(at)
	return api.OK
}

func (m *model) unpin(page int) api.Errno {
	at := m.at(page)
	if at < 0 || m.used[at].pins == 0 {
		return api.ErrPoolPin
	}
	m.used[at].pins--
	m.use(at)
	return api.OK
}

func (m *model) flush() api.Errno {
	for _, f := range m.used {
		if f.dirty && f.mark > m.safe {
			return api.ErrPoolBehind
		}
	}
	for page := range m.disk {
		if at := m.at(page); at >= 0 && m.used[at].dirty {
			m.write(m.used[at])
			m.used[at].dirty = false
		}
	}
	return api.OK
}

func (m *model) held() []int {
	var out []int
	for page := range m.disk {
		if m.at(page) >= 0 {
			out = append(out, page)
		}
	}
	return out
}

// contentOf is the page that the model tells by a number: 0 is noughts.
func contentOf(n int) []byte {
	b := make([]byte, 2048)
	for i := range b {
		b[i] = byte(n * (1 + i/128))
	}
	return b
}

// run does what the bytes say to a pool and to a model of it, and holds them against each other behind each step.
func run(t *testing.T, steps []byte) {
	next := func() int {
		if len(steps) == 0 {
			return 0
		}
		b := steps[0]
		steps = steps[1:]
		return int(b)
	}
	pages, frames, first := 1+next()%5, 1+next()%4, next()%3
	d, e := disk.New(first + 16*pages)
	if e != api.OK {
		t.Fatal(e)
	}
	p := newPool(t, d, first, pages, frames)
	m := &model{frames: frames, disk: make([]int, pages)}
	for n := 1; len(steps) > 0; n++ {
		what, page := next(), next()%(pages+2)-1
		errno, want := api.OK, api.OK
		switch what % 8 {
		case 0, 1:
			var b []byte
			var content int
			b, errno = p.Pin(page)
			content, want = m.pin(page)
			if errno == api.OK && !bytes.Equal(b, contentOf(content)) || errno != api.OK && len(b) != 0 {
				t.Fatalf("P7.3: step %d: Pin(%d): %d bytes, %d", n, page, len(b), errno)
			}
		case 2, 3:
			content, mark, length := 1+n%15, uint64(next()%6), 2048
			if what > 240 {
				length += what%3 - 1
			}
			errno = p.Put(page, append(contentOf(content), 0)[:length], mark)
			want = m.put(page, content, length, mark)
		case 4, 5:
			errno, want = p.Unpin(page), m.unpin(page)
		case 6:
			mark := uint64(next() % 6)
			p.Safe(mark)
			m.safe = max(m.safe, mark)
		case 7:
			errno, want = p.Flush(), m.flush()
		}
		if errno != want {
			t.Fatalf("P7.1: step %d (%d of page %d): %d, not %d", n, what%8, page, errno, want)
		}
		if got := p.Held(); !slices.Equal(got, m.held()) {
			t.Fatalf("P7.1: step %d (%d of page %d): Held is %v, not %v", n, what%8, page, got, m.held())
		}
		if d.Writes() != 16*len(m.written) {
			t.Fatalf("P7.2: step %d (%d of page %d): %d sectors were written, not %d", n, what%8, page, d.Writes(), 16*len(m.written))
		}
	}
	for page, content := range m.disk {
		if !bytes.Equal(onDisk(t, d, first, page), contentOf(content)) {
			t.Fatalf("P7.3: the page %d on the disk is not what was put and written", page)
		}
	}
}

func TestAsTheModel(t *testing.T) {
	random := rand.New(rand.NewSource(7))
	for range 600 {
		steps := make([]byte, random.Intn(300))
		random.Read(steps)
		run(t, steps)
	}
}

func FuzzAsTheModel(f *testing.F) {
	f.Add([]byte{3, 0, 0, 0, 1, 0, 2, 2, 1, 5, 4, 1, 0, 2, 6, 0, 5, 0, 2})
	f.Add([]byte{4, 1, 2, 0, 1, 2, 1, 3, 4, 1, 7, 0, 6, 0, 3, 7, 0})
	f.Fuzz(run)
}
