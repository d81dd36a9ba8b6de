package wal

import (
	"bytes"
	"encoding/binary"
	"hash/crc32"
	"math"
	"slices"
	"testing"

	"stile/api"
	"stile/disk"
)

func newDisk(t *testing.T, sectors int) *disk.Disk {
	t.Helper()
	d, e := disk.New(sectors)
	if e != api.OK {
		t.Fatalf("a disk of %d sectors: %d", sectors, e)
	}
	return d
}

func formatted(t *testing.T, d *disk.Disk, first, sectors int) *Log {
	t.Helper()
	l, e := Format(d, first, sectors)
	if l == nil || e != api.OK {
		t.Fatalf("P6.1: Format(%d, %d): %v, %d", first, sectors, l, e)
	}
	return l
}

func opened(t *testing.T, d *disk.Disk, first, sectors int) *Log {
	t.Helper()
	l, e := Open(d, first, sectors)
	if l == nil || e != api.OK {
		t.Fatalf("P6.1: Open(%d, %d): %v, %d", first, sectors, l, e)
	}
	return l
}

func appended(t *testing.T, l *Log, records ...string) {
	t.Helper()
	for _, r := range records {
		if e := l.Append([]byte(r)); e != api.OK {
			t.Fatalf("P6.1: Append(%d bytes): %d", len(r), e)
		}
	}
}

func flushed(t *testing.T, l *Log) {
	t.Helper()
	if e := l.Flush(); e != api.OK {
		t.Fatalf("P6.1: Flush: %d", e)
	}
}

// texts are a log's records.
func texts(l *Log) []string {
	var out []string
	for _, r := range l.Records() {
		out = append(out, string(r))
	}
	return out
}

// isLog asks what a log tells of itself.
func isLog(t *testing.T, what string, l *Log, flushed, free int, records ...string) {
	t.Helper()
	if got := texts(l); !slices.Equal(got, records) {
		t.Errorf("%s: the records are %q, not %q", what, got, records)
	}
	if l.Flushed() != flushed || l.Free() != free {
		t.Errorf("%s: Flushed %d, Free %d, not %d and %d", what, l.Flushed(), l.Free(), flushed, free)
	}
}

// frame is a record's frame by the library's own means.
func frame(record string) string {
	b := binary.LittleEndian.AppendUint32(nil, uint32(len(record)))
	b = binary.LittleEndian.AppendUint32(b, crc32.ChecksumIEEE([]byte(record)))
	b = append(b, record...)
	for len(b)%8 != 0 {
		b = append(b, 0)
	}
	return string(b)
}

// framesOf are the frames of records, one behind the other.
func framesOf(records ...string) string {
	out := ""
	for _, r := range records {
		out += frame(r)
	}
	return out
}

// lay writes bytes to a disk from a sector on, and makes them safe.
func lay(t *testing.T, d *disk.Disk, first int, s string) {
	t.Helper()
	for i := first; s != ""; i++ {
		n := min(len(s), api.SectorSize)
		if e := d.Write(i, []byte(s[:n])); e != api.OK {
			t.Fatalf("Write(%d): %d", i, e)
		}
		s = s[n:]
	}
	d.Sync()
}

// held is what some sectors of a disk hold.
func held(t *testing.T, d *disk.Disk, first, sectors int) string {
	t.Helper()
	var out []byte
	for i := range sectors {
		b, e := d.Read(first + i)
		if e != api.OK {
			t.Fatalf("Read(%d): %d", first+i, e)
		}
		out = append(out, b...)
	}
	return string(out)
}

// stands asks that sectors hold these bytes, and noughts behind them, now and whenever power goes.
func stands(t *testing.T, what string, d *disk.Disk, first, sectors int, s string) {
	t.Helper()
	want := s + noughts(sectors*api.SectorSize-len(s))
	alike(t, what, held(t, d, first, sectors), want)
	alike(t, what+": what is safe", held(t, d.Cut(nil), first, sectors), want)
	if d.Pending() != 0 {
		t.Errorf("%s: %d writes are pending", what, d.Pending())
	}
}

// alike tells where two regions differ first: they are too long to be told whole.
func alike(t *testing.T, what, got, want string) {
	t.Helper()
	for i := range min(len(got), len(want)) {
		if got[i] != want[i] {
			end := min(len(got), len(want), i+24)
			t.Errorf("%s: from the byte %d on the region is %q, not %q", what, i, got[i:end], want[i:end])
			return
		}
	}
	if len(got) != len(want) {
		t.Errorf("%s: the region has %d bytes, not %d", what, len(got), len(want))
	}
}

// text is so many bytes, none of which is a nought.
func text(n int) string {
	b := make([]byte, n)
	for i := range b {
		b[i] = byte(1 + i%255)
	}
	return string(b)
}

func noughts(n int) string { return string(make([]byte, n)) }

// both are the calls that give a log.
func both() map[string]func(*disk.Disk, int, int) (*Log, api.Errno) {
	return map[string]func(*disk.Disk, int, int) (*Log, api.Errno){"Format": Format, "Open": Open}
}

func TestTheRegionMustBeOnTheDisk(t *testing.T) {
	for name, call := range both() {
		for _, c := range []struct {
			size, first, sectors int
			want                 api.Errno
		}{
			{4, -1, 1, api.ErrArg}, {4, math.MinInt, 1, api.ErrArg}, {4, 0, 0, api.ErrArg}, {4, 0, -1, api.ErrArg},
			{4, 0, math.MinInt, api.ErrArg}, {2048, 0, 1025, api.ErrArg}, {4, 0, 1025, api.ErrArg}, {4, 0, math.MaxInt, api.ErrArg},
			{4, -1, 9, api.ErrArg}, {4, 9, 0, api.ErrArg}, {4, math.MaxInt, math.MaxInt, api.ErrArg},
			{4, 4, 1, api.ErrWalDisk}, {4, 0, 5, api.ErrWalDisk}, {4, 1, 4, api.ErrWalDisk}, {4, 3, 2, api.ErrWalDisk},
			{4, 0, 1024, api.ErrWalDisk}, {1023, 0, 1024, api.ErrWalDisk}, {1024, 1, 1024, api.ErrWalDisk},
			{4, math.MaxInt, 1, api.ErrWalDisk}, {4096, math.MaxInt, 1024, api.ErrWalDisk}, {4096, 4096, 1, api.ErrWalDisk}, {4096, 3073, 1024, api.ErrWalDisk},
		} {
			d := newDisk(t, c.size)
			lay(t, d, 0, text(128))
			d.Write(0, []byte("pending"))
			if l, e := call(d, c.first, c.sectors); l != nil || e != c.want {
				t.Errorf("P6.1: %s(%d, %d) on %d sectors: %v, %d, not %d", name, c.first, c.sectors, c.size, l, e, c.want)
			}
			if d.Writes() != 2 || d.Pending() != 1 {
				t.Errorf("P6.1: %s(%d, %d) answers an error and has changed the disk", name, c.first, c.sectors)
			}
		}
		for _, first := range []int{-1, 0, 1} {
			for _, sectors := range []int{0, 1, 1025} {
				if l, e := call(nil, first, sectors); l != nil || e != api.ErrArg {
					t.Errorf("P6.1: %s(nil, %d, %d): %v, %d", name, first, sectors, l, e)
				}
			}
		}
		for _, c := range []struct{ size, first, sectors int }{
			{1, 0, 1}, {4, 0, 1}, {4, 3, 1}, {4, 0, 4}, {4, 1, 3}, {1024, 0, 1024}, {1025, 1, 1024}, {4096, 3072, 1024}, {4096, 4095, 1},
		} {
			d := newDisk(t, c.size)
			l, e := call(d, c.first, c.sectors)
			if l == nil || e != api.OK {
				t.Fatalf("P6.1: %s(%d, %d) on %d sectors: %v, %d", name, c.first, c.sectors, c.size, l, e)
			}
			isLog(t, "P6.1: "+name, l, 0, 128*c.sectors)
			stands(t, "P6.1: "+name, d, c.first, c.sectors, "")
		}
	}
}

func TestFormatBlanksItsRegionAlone(t *testing.T) {
	for first := range 5 {
		for sectors := 1; first+sectors <= 5; sectors++ {
			d := newDisk(t, 5)
			whole := text(5 * 128)
			lay(t, d, 0, whole)
			isLog(t, "P6.1: Format", formatted(t, d, first, sectors), 0, 128*sectors)
			from, to := 128*first, 128*(first+sectors)
			stands(t, "P6.1: Format", d, 0, 5, whole[:from]+noughts(to-from)+whole[to:])
		}
	}
}

func TestFormatForgetsTheRecords(t *testing.T) {
	d := newDisk(t, 4)
	l := formatted(t, d, 1, 3)
	appended(t, l, "one", text(200))
	flushed(t, l)
	isLog(t, "P6.1: Format again", formatted(t, d, 1, 3), 0, 384)
	isLog(t, "P6.1: Open behind Format", opened(t, d, 1, 3), 0, 384)
}

func TestTheExample(t *testing.T) {
	d := newDisk(t, 2)
	l := formatted(t, d, 0, 2)
	isLog(t, "P6.1: the example", l, 0, 256)
	appended(t, l, text(248))
	if e := l.Append([]byte{1}); e != api.ErrWalFull {
		t.Errorf("P6.1: the example: %d", e)
	}
	isLog(t, "P6.1: the example", l, 0, 0, text(248))
	flushed(t, l)
	isLog(t, "P6.1: the example", opened(t, d, 0, 2), 1, 0, text(248))
}

func TestAppendTakesOneByteToTheMost(t *testing.T) {
	for _, sectors := range []int{1, 66, 1024} {
		d := newDisk(t, sectors)
		l := formatted(t, d, 0, sectors)
		appended(t, l, "ahead")
		// That a record is too long is named ahead of that there is no room.
		for _, b := range [][]byte{nil, {}, make([]byte, 8193), make([]byte, 8200), make([]byte, 1<<18)} {
			if e := l.Append(b); e != api.ErrWalLong {
				t.Errorf("P6.1: Append(%d bytes) in %d sectors: %d", len(b), sectors, e)
			}
		}
		isLog(t, "P6.1: behind ErrWalLong", l, 0, 128*sectors-16, "ahead")
		stands(t, "P6.1: behind ErrWalLong", d, 0, sectors, "")
	}
	d := newDisk(t, 66)
	l := formatted(t, d, 0, 66)
	records := []string{"x", text(8192), "y"}
	appended(t, l, records...)
	isLog(t, "P6.1: the longest record", l, 0, 66*128-16-8200-16, records...)
	flushed(t, l)
	stands(t, "P6.1: the longest record", d, 0, 66, framesOf(records...))
	isLog(t, "P6.1: the longest record", opened(t, d, 0, 66), 3, 66*128-16-8200-16, records...)
}

func TestAppendTakesWhatJustFits(t *testing.T) {
	for ahead := range 40 {
		d := newDisk(t, 2)
		l := formatted(t, d, 0, 2)
		var records []string
		if ahead > 0 {
			records = append(records, text(ahead))
			appended(t, l, records...)
		}
		free := l.Free()
		for _, n := range []int{free - 7, free, free + 1, 8192} {
			if e := l.Append(make([]byte, n)); e != api.ErrWalFull {
				t.Errorf("P6.1: Append(%d bytes) with %d free: %d", n, free, e)
			}
		}
		isLog(t, "P6.1: behind ErrWalFull", l, 0, free, records...)
		// All records whose frame fills the region to its last byte.
		for n := free - 15; n <= free-8; n++ {
			o := formatted(t, d, 0, 2)
			appended(t, o, append(slices.Clone(records), text(n))...)
			isLog(t, "P6.1: what just fits", o, 0, 0, append(slices.Clone(records), text(n))...)
			if e := o.Append([]byte{0}); e != api.ErrWalFull {
				t.Errorf("P6.1: Append to a full log: %d", e)
			}
			flushed(t, o)
			stands(t, "P6.1: what just fits", d, 0, 2, framesOf(append(slices.Clone(records), text(n))...))
			isLog(t, "P6.1: what just fits", opened(t, d, 0, 2), len(records)+1, 0, append(slices.Clone(records), text(n))...)
		}
	}
}

func TestFreeCountsWholeFrames(t *testing.T) {
	d := newDisk(t, 1024)
	l := formatted(t, d, 0, 1024)
	free := 1024 * 128
	for n := 1; n <= 300; n++ {
		appended(t, l, noughts(n))
		free -= 8 + (n+7)/8*8
		if l.Free() != free {
			t.Fatalf("P6.1: Free behind a record of %d bytes: %d, not %d", n, l.Free(), free)
		}
	}
}

func TestAppendIsInMemoryAlone(t *testing.T) {
	d := newDisk(t, 4)
	l := formatted(t, d, 1, 2)
	writes := d.Writes()
	appended(t, l, "one", "two")
	isLog(t, "P6.1: Append", l, 0, 256-32, "one", "two")
	if d.Writes() != writes || d.Pending() != 0 {
		t.Error("P6.1: Append has written to the disk")
	}
	isLog(t, "P6.1: Open ahead of Flush", opened(t, d, 1, 2), 0, 256)
}

func TestFlushWritesTheForm(t *testing.T) {
	for _, records := range [][]string{
		{"a"}, {"\x00"}, {noughts(8)}, {noughts(300)}, {"1234567", "12345678", "123456789"}, {text(104)}, {text(120)}, {text(121)}, {text(112), "x"},
		{text(248), text(248)}, {text(120), text(120), text(120)}, {text(500)}, {text(480), "end"}, {"\xff\xff\xff\xff\xff\xff\xff\xff", "one", text(129)},
	} {
		d := newDisk(t, 7)
		around := text(7 * 128)
		lay(t, d, 0, around)
		l := formatted(t, d, 1, 5)
		appended(t, l, records...)
		flushed(t, l)
		form := framesOf(records...)
		isLog(t, "P6.1: Flush", l, len(records), 5*128-len(form), records...)
		stands(t, "P6.1: Flush", d, 1, 5, form)
		stands(t, "P6.1: ahead of the region", d, 0, 1, around[:128])
		stands(t, "P6.1: behind the region", d, 6, 1, around[6*128:])
	}
}

// TestFlushGoesOn flushes one by one what is flushed at once elsewhere.
func TestFlushGoesOn(t *testing.T) {
	for _, lengths := range [][]int{{1, 2, 3, 4}, {120, 1, 120, 112, 1}, {100, 100, 100}, {112, 1, 1}, {8, 240, 8}, {256, 120}, {7, 8, 9, 104, 1}} {
		d := newDisk(t, 6)
		l := formatted(t, d, 0, 6)
		var records []string
		for i, n := range lengths {
			records = append(records, text(n + i)[i:])
			appended(t, l, records[i])
			isLog(t, "P6.1: ahead of Flush", l, i, 6*128-len(framesOf(records...)), records...)
			flushed(t, l)
			isLog(t, "P6.1: Flush again and again", l, i+1, 6*128-len(framesOf(records...)), records...)
			stands(t, "P6.1: Flush again and again", d, 0, 6, framesOf(records...))
		}
		o := opened(t, d, 0, 6)
		isLog(t, "P6.1: Open", o, len(records), 6*128-len(framesOf(records...)), records...)
		appended(t, o, "more")
		flushed(t, o)
		stands(t, "P6.1: Flush of a log that was opened", d, 0, 6, framesOf(append(records, "more")...))
	}
}

// TestFlushWritesNoMoreThanItsFrames counts the sectors of the new frames, and one more for the head.
func TestFlushWritesNoMoreThanItsFrames(t *testing.T) {
	for _, c := range []struct {
		ahead []string
		now   []string
		want  int
	}{
		{nil, []string{"a"}, 2}, {nil, []string{text(120)}, 2}, {nil, []string{text(121)}, 3}, {nil, []string{text(120), "a"}, 3},
		{[]string{text(120)}, []string{"a"}, 2}, {[]string{text(112)}, []string{"a"}, 3}, {[]string{text(104)}, []string{"a"}, 2}, {[]string{text(300)}, []string{text(200)}, 4}, {[]string{"a"}, []string{"b", "c"}, 2},
	} {
		d := newDisk(t, 8)
		l := formatted(t, d, 2, 6)
		appended(t, l, c.ahead...)
		flushed(t, l)
		from := d.Writes()
		appended(t, l, c.now...)
		flushed(t, l)
		if got := d.Writes() - from; got != c.want {
			t.Errorf("P6.1: Flush of %d records behind %d: %d writes, not %d", len(c.now), len(c.ahead), got, c.want)
		}
	}
}

func TestFlushOfNothing(t *testing.T) {
	d := newDisk(t, 3)
	l := formatted(t, d, 0, 3)
	quiet := func(what string) {
		t.Helper()
		writes, bytes := d.Writes(), held(t, d, 0, 3)
		for range 2 {
			flushed(t, l)
		}
		if d.Writes() != writes || held(t, d, 0, 3) != bytes {
			t.Errorf("P6.1: %s: Flush has written", what)
		}
	}
	quiet("no records")
	isLog(t, "P6.1: Flush of nothing", l, 0, 384)
	appended(t, l, "one")
	flushed(t, l)
	quiet("all is flushed")
	isLog(t, "P6.1: Flush twice", l, 1, 368, "one")
	if e := l.Append(nil); e != api.ErrWalLong {
		t.Errorf("P6.1: Append(nil): %d", e)
	}
	quiet("an Append was refused")
	l = opened(t, d, 0, 3)
	quiet("the log was opened")
	isLog(t, "P6.1: Flush behind Open", l, 1, 368, "one")
}

func TestTheLogKeepsNothingThatWasHandedIn(t *testing.T) {
	d := newDisk(t, 4)
	l := formatted(t, d, 0, 4)
	given := []byte("one, and what lies behind it")
	if e := l.Append(given[:3]); e != api.OK {
		t.Fatalf("P6.1: Append: %d", e)
	}
	if string(given) != "one, and what lies behind it" {
		t.Errorf("P6.1: Append changed what it was given: %q", given)
	}
	clear(given)
	isLog(t, "P6.1: what was given is changed", l, 0, 512-16, "one")
	flushed(t, l)
	stands(t, "P6.1: what was given is changed", d, 0, 4, frame("one"))
	long := []byte(text(200))
	l.Append(long)
	flushed(t, l)
	clear(long)
	isLog(t, "P6.1: what was given is changed behind Flush", l, 2, 512-16-208, "one", text(200))
	appended(t, l, "end")
	flushed(t, l)
	stands(t, "P6.1: what was given is changed behind Flush", d, 0, 4, framesOf("one", text(200), "end"))
}

func TestRecordsAnswersItsOwnMemory(t *testing.T) {
	d := newDisk(t, 4)
	l := formatted(t, d, 0, 4)
	want := []string{"one", text(130), "three"}
	appended(t, l, want[0], want[1])
	flushed(t, l)
	appended(t, l, want[2])
	for _, at := range []*Log{l, nil} {
		if at == nil {
			flushed(t, l)
			at = opened(t, d, 0, 4)
		}
		told, other := at.Records(), at.Records()
		for i, r := range told {
			for k := range r {
				r[k] = 'x'
			}
			// What is added behind one record must not run into the next one, or into the log.
			told[i] = append(r, "overwritten, noughts and all"...)
		}
		if told = append(told[:0], nil, nil, nil); len(told) != 3 {
			t.Fatal(told)
		}
		for i, r := range other {
			if string(r) != want[i] {
				t.Errorf("P6.1: two answers of Records share memory: %q", r)
			}
		}
		if got := texts(at); !slices.Equal(got, want) {
			t.Errorf("P6.1: what Records answered is changed, and the log with it: %q", got)
		}
	}
	stands(t, "P6.1: what Records answered is changed", d, 0, 4, framesOf(want...))
	told := l.Records()
	appended(t, l, "four")
	flushed(t, l)
	if !bytes.Equal(told[0], []byte("one")) || len(told) != 3 {
		t.Errorf("P6.1: Append changed what Records answered: %q", told)
	}
	stands(t, "P6.1: Append goes on", d, 0, 4, framesOf(append(want, "four")...))
}

func TestLogsOnOneDiskAreApart(t *testing.T) {
	d := newDisk(t, 6)
	one, other := formatted(t, d, 0, 3), formatted(t, d, 3, 3)
	appended(t, one, "a", text(200))
	appended(t, other, text(300))
	flushed(t, one)
	stands(t, "P6.1: one log is flushed", d, 0, 6, framesOf("a", text(200)))
	flushed(t, other)
	stands(t, "P6.1: one log", d, 0, 3, framesOf("a", text(200)))
	stands(t, "P6.1: the other log", d, 3, 3, frame(text(300)))
	formatted(t, d, 0, 3)
	isLog(t, "P6.1: the other log", opened(t, d, 3, 3), 1, 384-312, text(300))
}

func TestNilLog(t *testing.T) {
	var l *Log
	for _, b := range [][]byte{nil, {1}, make([]byte, 8193)} {
		if e := l.Append(b); e != api.ErrArg {
			t.Errorf("P6.1: Append(%d bytes) on nil: %d", len(b), e)
		}
	}
	if e := l.Flush(); e != api.ErrArg {
		t.Errorf("P6.1: Flush on nil: %d", e)
	}
	if r := l.Records(); len(r) != 0 {
		t.Errorf("P6.1: Records on nil: %v", r)
	}
	if l.Flushed() != 0 || l.Free() != 0 {
		t.Errorf("P6.1: on nil: Flushed %d, Free %d", l.Flushed(), l.Free())
	}
}

func TestCRC(t *testing.T) {
	if got := crc([]byte("123456789")); got != 0xcbf43926 {
		t.Errorf("P6.1: the CRC-32 of 123456789: %08x", got)
	}
	for n := range 600 {
		b := []byte(text(n + 3)[3:])
		if got, want := crc(b), crc32.ChecksumIEEE(b); got != want {
			t.Errorf("P6.1: the CRC-32 of %d bytes: %08x, not %08x", n, got, want)
		}
	}
}
