package wal

import (
	"stile/api"
	"stile/disk"
)

// taker is a function that takes the region's next n bytes, or none if there are fewer left.
func taker(d *disk.Disk, first, sectors int) func(n int) []byte {
	next, end := first, first+sectors
	var held []byte
	return func(n int) []byte {
		for len(held) < n && next < end {
			// checkRegion has told that the disk has this sector.
			sector, _ := d.Read(next)
			held = append(held, sector...)
			next++
		}
		if len(held) < n {
			return nil
		}
		taken := held[:n]
		held = held[n:]
		return taken
	}
}

// settle makes all of the region behind the frames noughts, and safe.
func (l *Log) settle() {
	// What stands there counts as flushed, so it must be safe, even if whoever wrote it did not ask for that.
	l.disk.Sync()
	// Once the place where the frames end is blank nothing behind it is read any more: only then may it go sector by sector.
	end := len(l.frames) / api.SectorSize
	behind := min(end+1, l.sectors)
	l.lay(end, behind)
	l.lay(behind, l.sectors)
}

// lay writes the region's sectors from one up to another as the frames fill them, and makes them safe.
func (l *Log) lay(from, to int) {
	for i := from; i < to; i++ {
		start := min(i*api.SectorSize, len(l.frames))
		stop := min(start+api.SectorSize, len(l.frames))
		// The disk puts noughts behind what is shorter than a sector; it has all of the region's sectors.
		l.disk.Write(l.first+i, l.frames[start:stop])
	}
	l.disk.Sync()
}

func sectorsFor(n int) int { return (n + api.SectorSize - 1) / api.SectorSize }
