package wal

import (
	"slices"
	"testing"

	"stile/api"
	"stile/disk"
)

// keeps goes through what a loss of power may keep of so many pending writes: all choices of a few, some choices of many.
func keeps(pending int) func(func([]bool) bool) {
	const few = 7
	return func(yield func([]bool) bool) {
		for n := range 1 << min(pending, few) {
			keep := make([]bool, pending)
			for i := range keep {
				// The bits come again, so that both ends of a long run of writes are chosen from.
				keep[i] = n>>(i%few)&1 == 1
			}
			if !yield(keep) {
				return
			}
		}
		for one := range pending {
			alone, without := make([]bool, pending), slices.Repeat([]bool{true}, pending)
			alone[one], without[one] = true, false
			if !yield(alone) || !yield(without) {
				return
			}
		}
	}
}

// losses goes through the disks that a loss of power leaves behind each write from the given one on: those that differ, each once.
func losses(t *testing.T, d *disk.Disk, from int) func(func(*disk.Disk) bool) {
	return func(yield func(*disk.Disk) bool) {
		seen := map[string]bool{}
		for n := from + 1; n <= d.Writes(); n++ {
			for keep := range keeps(n - from) {
				left := d.CutAt(n, keep)
				form := held(t, left, 0, left.Size())
				if seen[form] {
					continue
				}
				seen[form] = true
				if !yield(left) {
					return
				}
			}
		}
	}
}

// tells asks that what was left tells one of some lists of records, that the region is as it should be then, and that all goes on from there.
func tells(t *testing.T, what string, left *disk.Disk, first, sectors int, lists ...[]string) {
	t.Helper()
	l := opened(t, left, first, sectors)
	got := texts(l)
	if !slices.ContainsFunc(lists, func(want []string) bool { return slices.Equal(got, want) }) {
		t.Fatalf("P6.2: %s: the records are %q", what, got)
	}
	isLog(t, "P6.2: "+what, l, len(got), sectors*128-len(framesOf(got...)), got...)
	stands(t, "P6.2: "+what, left, first, sectors, framesOf(got...))
	if l.Append([]byte("on")) == api.OK {
		flushed(t, l)
		stands(t, "P6.2: it goes on: "+what, left, first, sectors, framesOf(append(got, "on")...))
	}
}

// endures asks tells whenever power goes behind a write, and again within the Open that comes then.
func endures(t *testing.T, what string, d *disk.Disk, from, first, sectors int, lists ...[]string) {
	t.Helper()
	for left := range losses(t, d, from) {
		again := left.Cut(nil)
		want := texts(opened(t, again, first, sectors))
		for twice := range losses(t, again, 0) {
			tells(t, "power goes in Open too: "+what, twice, first, sectors, want)
		}
		tells(t, what, left, first, sectors, lists...)
		if t.Failed() {
			t.FailNow()
		}
	}
}

// runs are what is flushed first, and what is being flushed when power goes, in a region of 6 sectors.
func runs() [][2][]string {
	none := []string(nil)
	return [][2][]string{
		{none, {"a"}}, {none, {text(500)}}, {none, {"a", "b", "c"}}, {none, {text(120), text(120), text(120)}},
		{none, {noughts(400)}}, {none, {noughts(112) + "a" + noughts(300)}}, {none, {text(120) + noughts(100), "b"}}, {none, {text(760)}},
		{{"one"}, {"a"}}, {{"one"}, {text(104)}}, {{"one"}, {text(105)}}, {{"one", "two"}, {text(300) + noughts(200)}}, {{"one"}, {noughts(500), "b"}},
		{{text(120)}, {"a"}}, {{text(120)}, {text(120), "b"}}, {{text(112)}, {"a", text(200)}}, {{text(112)}, {text(112), text(112)}}, {{text(104)}, {noughts(8), text(300)}},
		{{text(200), noughts(90)}, {frame("not this"), frame("nor that")}}, {{"one"}, {text(96) + frame("a frame in a record"), "b"}},
		{{text(500)}, {text(240)}}, {{text(700)}, {"a", "b", "c"}}, {{noughts(300)}, {noughts(300)}},
	}
}

func TestPowerGoesInFlush(t *testing.T) {
	for _, run := range runs() {
		for _, first := range []int{0, 2} {
			safe, new := run[0], run[1]
			d := newDisk(t, 8)
			l := formatted(t, d, first, 6)
			appended(t, l, safe...)
			flushed(t, l)
			appended(t, l, new...)
			isAt := texts(opened(t, d.Cut(nil), first, 6))
			if !slices.Equal(isAt, safe) {
				t.Fatalf("P6.2: ahead of Flush: %q, not %q", isAt, safe)
			}
			from := d.Writes()
			flushed(t, l)
			all := append(slices.Clone(safe), new...)
			endures(t, "Flush", d, from, first, 6, safe, all)
			tells(t, "behind Flush", d.Cut(nil), first, 6, all)
		}
	}
}

// TestFlushBringsTheHeadLast looks at the writes one by one, as the chapter has them.
func TestFlushBringsTheHeadLast(t *testing.T) {
	for _, run := range runs() {
		d := newDisk(t, 6)
		l := formatted(t, d, 0, 6)
		appended(t, l, run[0]...)
		flushed(t, l)
		appended(t, l, run[1]...)
		from := d.Writes()
		flushed(t, l)
		ahead, all := framesOf(run[0]...), framesOf(append(slices.Clone(run[0]), run[1]...)...)
		blank := ahead + noughts(8) + all[len(ahead)+8:]
		// Ahead of the last write the frames are safe, but for the head.
		last := d.Writes()
		stands(t, "P6.1: ahead of the head's write", d.CutAt(last, nil), 0, 6, blank)
		stands(t, "P6.1: behind the head's write", d.CutAt(last, []bool{true}), 0, 6, all)
		for n := from + 1; n < last; n++ {
			stands(t, "P6.1: ahead of the frames' Sync", d.CutAt(n, nil), 0, 6, ahead)
		}
		stands(t, "P6.1: the frames' writes", d.CutAt(last-1, slices.Repeat([]bool{true}, last-1-from)), 0, 6, blank)
	}
}

// TestPowerGoesAgainAndAgain flushes what power has cut off, on what it has left.
func TestPowerGoesAgainAndAgain(t *testing.T) {
	var further func(d *disk.Disk, safe []string, depth int)
	further = func(d *disk.Disk, safe []string, depth int) {
		l := opened(t, d, 1, 5)
		if got := texts(l); !slices.Equal(got, safe) {
			t.Fatalf("P6.2: the records are %q, not %q", got, safe)
		}
		if depth == 0 {
			return
		}
		more := []string{text(50 + 30*depth), "b" + noughts(4*depth)}
		appended(t, l, more...)
		from := d.Writes()
		flushed(t, l)
		all := append(slices.Clone(safe), more...)
		for left := range losses(t, d, from) {
			got := texts(opened(t, left.Cut(nil), 1, 5))
			if !slices.Equal(got, safe) && !slices.Equal(got, all) {
				t.Fatalf("P6.2: the records are %q, not %q or %q", got, safe, all)
			}
			further(left, got, depth-1)
		}
	}
	d := newDisk(t, 6)
	formatted(t, d, 1, 5)
	further(d.Cut(nil), nil, 3)
}

func TestPowerGoesInFormat(t *testing.T) {
	for _, run := range runs() {
		for _, first := range []int{0, 2} {
			records := append(slices.Clone(run[0]), run[1]...)
			d := newDisk(t, 8)
			lay(t, d, first, framesOf(records...))
			from := d.Writes()
			formatted(t, d, first, 6)
			endures(t, "Format", d, from, first, 6, records, nil)
			tells(t, "behind Format", d.Cut(nil), first, 6, nil)
		}
	}
}

// TestFormatOverPendingWrites formats a region whose last writes nobody has made safe: what stood there is one whole, too.
func TestFormatOverPendingWrites(t *testing.T) {
	for _, records := range [][]string{{"one", text(150), "three"}, {text(120), text(120), text(120)}} {
		d := newDisk(t, 4)
		lay(t, d, 0, text(512))
		form := framesOf(records...)
		for i := range 4 {
			d.Write(i, []byte(form[min(128*i, len(form)):min(128*(i+1), len(form))]))
		}
		from := d.Writes()
		formatted(t, d, 0, 4)
		endures(t, "Format over pending writes", d, from, 0, 4, records, nil)
	}
}

func TestFormatBlanksTheFirstSectorFirst(t *testing.T) {
	d := newDisk(t, 5)
	whole := text(5 * 128)
	lay(t, d, 0, whole)
	from := d.Writes()
	formatted(t, d, 1, 4)
	blank := whole[:128] + noughts(128) + whole[256:]
	stands(t, "P6.1: the first write of Format", d.CutAt(from+1, []bool{true}), 0, 5, blank)
	for n := from + 2; n <= d.Writes(); n++ {
		stands(t, "P6.1: the other writes of Format", d.CutAt(n, nil), 0, 5, blank)
	}
}

func TestPowerGoesInOpen(t *testing.T) {
	// A frame whose record is right but for a sector that was never written: once that is noughts the frame would be right, and must not be told.
	hidden := text(100) + noughts(300)
	torn := frame(hidden)
	torn = torn[:256] + text(100) + torn[356:]
	behind := map[string]string{
		"nothing": "", "a text": text(300), "a CRC that noughts would make right": torn, "a frame behind noughts": noughts(8) + frame(text(200)),
		"a right frame that no right one leads": headed(3, 1, "abc") + frame("hidden") + frame("more"),
		"noughts that stand no more":            spoiled(frame("abc"), 15, 1) + text(100),
	}
	for name, bad := range behind {
		for _, records := range [][]string{nil, {"one"}, {text(96)}, {text(104)}, {text(112)}, {text(120)}, {text(120), text(120)}, {text(130), "two"}} {
			d := newDisk(t, 8)
			lay(t, d, 1, framesOf(records...)+bad)
			from := d.Writes()
			isLog(t, "P6.2: Open", opened(t, d, 1, 6), len(records), 6*128-len(framesOf(records...)), records...)
			endures(t, "Open of "+name, d, from, 1, 6, records)
			tells(t, "behind Open of "+name, d.Cut(nil), 1, 6, records)
		}
	}
}

func TestOpenBlanksTheSectorOfThatPlaceFirst(t *testing.T) {
	for _, n := range []int{0, 1, 80, 104, 112, 120, 130, 200} {
		ahead := ""
		if n > 0 {
			ahead = frame(text(n))
		}
		d := newDisk(t, 5)
		whole := ahead + text(640)[len(ahead):]
		lay(t, d, 0, whole)
		from := d.Writes()
		opened(t, d, 0, 5)
		end := (len(ahead)/128 + 1) * 128
		blank := ahead + noughts(end-len(ahead)) + whole[end:]
		stands(t, "P6.1: the first write of Open", d.CutAt(from+1, []bool{true}), 0, 5, blank)
		for k := from + 2; k <= d.Writes(); k++ {
			stands(t, "P6.1: the other writes of Open", d.CutAt(k, nil), 0, 5, blank)
		}
	}
}

// TestOpenMakesSafeWhatItTells opens a region whose last writes nobody has made safe.
func TestOpenMakesSafeWhatItTells(t *testing.T) {
	for _, records := range [][]string{{"one"}, {text(300), "two"}, {text(120)}, {text(120), text(240)}, {text(504)}} {
		form := framesOf(records...)
		d := newDisk(t, 4)
		for i := range 4 {
			d.Write(i, []byte(form[min(128*i, len(form)):min(128*(i+1), len(form))]))
		}
		from := d.Writes()
		l := opened(t, d, 0, 4)
		isLog(t, "P6.2: Open of pending writes", l, len(records), 512-len(form), records...)
		stands(t, "P6.2: Open of pending writes", d, 0, 4, form)
		endures(t, "Open of pending writes", d, from, 0, 4, records)
	}
}

func TestPowerGoesInALargeLog(t *testing.T) {
	d := newDisk(t, 1024)
	l := formatted(t, d, 0, 1024)
	safe := []string{text(8192), "one"}
	appended(t, l, safe...)
	flushed(t, l)
	new := []string{text(5000), noughts(300)}
	appended(t, l, new...)
	from := d.Writes()
	flushed(t, l)
	all := append(slices.Clone(safe), new...)
	for n := from + 1; n <= d.Writes(); n++ {
		for _, keep := range [][]bool{nil, {true}, {false, true}, slices.Repeat([]bool{true}, 64), slices.Repeat([]bool{false, true, true}, 20)} {
			got := texts(opened(t, d.CutAt(n, keep), 0, 1024))
			if !slices.Equal(got, safe) && (n < d.Writes() || !slices.Equal(got, all)) {
				t.Fatalf("P6.2: %d writes of Flush, %v kept: %d records", n-from, keep, len(got))
			}
		}
	}
	isLog(t, "P6.2: a large log", opened(t, d.Cut(nil), 0, 1024), 4, 1024*128-len(framesOf(all...)), all...)
}

// FuzzPower lets power go wherever it likes, and holds what is told against what was flushed.
func FuzzPower(f *testing.F) {
	f.Add([]byte{10, 200, 0, 3, 255, 7, 30, 30, 0, 1, 1, 90, 0, 2, 5, 120, 0, 9, 1})
	f.Add([]byte{120, 0, 4, 1, 120, 0, 4, 3, 112, 8, 0, 2, 1, 99, 0, 200, 0, 0, 1})
	f.Fuzz(func(t *testing.T, steps []byte) {
		d := newDisk(t, 8)
		l := formatted(t, d, 1, 6)
		var safe []string
		for len(steps) >= 3 {
			s := steps[0]
			if s != 0 {
				l.Append([]byte(text(int(s) + len(steps))[len(steps):]))
				steps = steps[1:]
				continue
			}
			from, all := d.Writes(), texts(l)
			flushed(t, l)
			n := from + int(steps[1])%8
			if steps[1] < 8 && n > from && n <= d.Writes() {
				keep := make([]bool, 8)
				for i := range keep {
					keep[i] = steps[2]>>i&1 == 1
				}
				d = d.CutAt(n, keep)
				l = opened(t, d, 1, 6)
			}
			got := texts(l)
			if !slices.Equal(got, all) && !slices.Equal(got, safe) {
				t.Fatalf("P6.2: the records are %q, not %q or %q", got, safe, all)
			}
			safe, steps = got, steps[3:]
			if l.Flushed() != len(safe) {
				t.Fatalf("P6.2: Flushed is %d of %d", l.Flushed(), len(safe))
			}
			stands(t, "P6.2", d, 1, 6, framesOf(safe...))
		}
	})
}
