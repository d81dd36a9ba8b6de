package disk

import "maps"

// Cut is what a loss of power leaves.
func (d *Disk) Cut(keep []bool) *Disk {
	if d == nil {
		return nil
	}
	return d.cut(len(d.writes), d.safe, keep)
}

// CutAt is what a loss of power behind the n-th write would have left.
func (d *Disk) CutAt(n int, keep []bool) *Disk {
	if d == nil {
		return nil
	}
	n = min(max(n, 0), len(d.writes))
	if n == 0 {
		return d.cut(0, 0, keep)
	}
	// What was safe then counts, not what is safe now: a Sync behind the n-th write had not come.
	return d.cut(n, d.writes[n-1].safe, keep)
}

// cut is what the first so many writes leave, of which the first so many are safe.
func (d *Disk) cut(done, safe int, keep []bool) *Disk {
	sectors := maps.Clone(d.first)
	for i, w := range d.writes[:done] {
		if i < safe || kept(keep, i-safe) {
			sectors[w.place] = w.left
		}
	}
	return begin(d.size, sectors)
}

func kept(keep []bool, place int) bool { return place < len(keep) && keep[place] }

// begin is a disk that holds these sectors, to which nothing was written.
func begin(size int, sectors map[int]sector) *Disk {
	return &Disk{size: size, first: sectors, now: maps.Clone(sectors)}
}
