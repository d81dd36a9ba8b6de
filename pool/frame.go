package pool

import "stile/api"

const pageSectors = api.PageSize / api.SectorSize

// frame holds a page.
type frame struct {
	content []byte
	pins    int
	// Whether the content is not as on the disk.
	dirty bool
	mark  uint64
	// Which of the pool's uses was its last one.
	used int
}

func (p *Pool) use(f *frame) {
	p.uses++
	f.used = p.uses
}

// isBehind tells whether the log must become safe further on ahead of the frame's being written.
func (p *Pool) isBehind(f *frame) bool { return f.dirty && f.mark > p.safe }

// makeRoom leaves a frame free, or answers ErrPoolBehind, or ErrPoolFull.
func (p *Pool) makeRoom() api.Errno {
	if len(p.held) < p.size {
		return api.OK
	}
	isUnpinned := func(f *frame) bool { return f.pins == 0 }
	mayGo := func(f *frame) bool { return isUnpinned(f) && !p.isBehind(f) }
	if page, found := p.usedLongestAgo(mayGo); found {
		p.clean(page)
		delete(p.held, page)
		return api.OK
	}
	if _, found := p.usedLongestAgo(isUnpinned); found {
		return api.ErrPoolBehind
	}
	return api.ErrPoolFull
}

// usedLongestAgo is, of the held pages whose frames are wanted, the one whose last use is the farthest back.
func (p *Pool) usedLongestAgo(wanted func(f *frame) bool) (page int, found bool) {
	// No two frames have the same last use, so that it is one page in whatever order the map tells them.
	least := 0
	for n, f := range p.held {
		if wanted(f) && (!found || f.used < least) {
			page, least, found = n, f.used, true
		}
	}
	return page, found
}

// clean writes a held page to the disk if it is dirty.
func (p *Pool) clean(page int) {
	f := p.held[page]
	if !f.dirty {
		return
	}
	for i := range pageSectors {
		// New has told that the disk has this sector.
		p.disk.Write(p.sector(page, i), f.content[i*api.SectorSize:(i+1)*api.SectorSize])
	}
	f.dirty = false
}

// load is a page as it is on the disk.
func (p *Pool) load(page int) []byte {
	var content []byte
	for i := range pageSectors {
		part, _ := p.disk.Read(p.sector(page, i))
		content = append(content, part...)
	}
	return content
}

// sector is where the i-th sector of a page stands on the disk.
func (p *Pool) sector(page, i int) int { return p.first + page*pageSectors + i }
