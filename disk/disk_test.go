package disk

import (
	"bytes"
	"math"
	"slices"
	"testing"

	"stile/api"
)

func made(t *testing.T, sectors int) *Disk {
	t.Helper()
	d, e := New(sectors)
	if d == nil || e != api.OK {
		t.Fatalf("P5.1: New(%d): %v, %d", sectors, d, e)
	}
	return d
}

func wrote(t *testing.T, d *Disk, i int, s string) {
	t.Helper()
	if e := d.Write(i, []byte(s)); e != api.OK {
		t.Fatalf("P5.1: Write(%d, %q): %d", i, s, e)
	}
}

func read(t *testing.T, d *Disk, i int) []byte {
	t.Helper()
	b, e := d.Read(i)
	if e != api.OK || len(b) != api.SectorSize {
		t.Fatalf("P5.1: Read(%d): %d bytes, %d", i, len(b), e)
	}
	return b
}

// padded is what a sector holds behind a write of these bytes.
func padded(s string) []byte {
	return append([]byte(s), make([]byte, api.SectorSize-len(s))...)
}

// holds asks that the disk's sectors are these texts, and noughts behind them.
func holds(t *testing.T, what string, d *Disk, texts ...string) {
	t.Helper()
	if d.Size() != len(texts) {
		t.Fatalf("%s: Size is %d, not %d", what, d.Size(), len(texts))
	}
	for i, s := range texts {
		if b := read(t, d, i); !bytes.Equal(b, padded(s)) {
			t.Errorf("%s: sector %d is %q, not %q", what, i, bytes.TrimRight(b, "\x00"), s)
		}
	}
}

// counts asks how many writes there were, and how many of them are pending.
func counts(t *testing.T, what string, d *Disk, writes, pending int) {
	t.Helper()
	if d.Writes() != writes || d.Pending() != pending {
		t.Errorf("%s: %d writes, %d pending, not %d and %d", what, d.Writes(), d.Pending(), writes, pending)
	}
}

func TestNewTakesOneSectorToTheMost(t *testing.T) {
	for _, n := range []int{0, -1, 4097, 8192, math.MinInt, math.MaxInt} {
		if d, e := New(n); d != nil || e != api.ErrArg {
			t.Errorf("P5.1: New(%d): %v, %d", n, d, e)
		}
	}
	for _, n := range []int{1, 2, 4095, 4096} {
		d := made(t, n)
		holds(t, "P5.1: a new disk", d, make([]string, n)...)
		counts(t, "P5.1: a new disk", d, 0, 0)
	}
}

func TestReadAndWriteKnowTheirSectors(t *testing.T) {
	for _, n := range []int{1, 2, 4, 4096} {
		d := made(t, n)
		wrote(t, d, 0, "first")
		wrote(t, d, n-1, "last")
		for _, i := range []int{-1, n, n + 1, 4096, 4097, math.MinInt, math.MaxInt} {
			if b, e := d.Read(i); b != nil || e != api.ErrDiskRange {
				t.Errorf("P5.1: Read(%d) of %d: %v, %d", i, n, b, e)
			}
			// The place is named ahead of the length.
			for _, b := range [][]byte{nil, {1}, make([]byte, 128), make([]byte, 129)} {
				if e := d.Write(i, b); e != api.ErrDiskRange {
					t.Errorf("P5.1: Write(%d, %d bytes) of %d: %d", i, len(b), n, e)
				}
			}
		}
		want := make([]string, n)
		want[0], want[n-1] = "first", "last"
		if n == 1 {
			want[0] = "last"
		}
		holds(t, "P5.1: behind errors", d, want...)
		counts(t, "P5.1: behind errors", d, 2, 2)
	}
}

func TestWriteTakesUpToAWholeSector(t *testing.T) {
	d := made(t, 2)
	long := string(bytes.Repeat([]byte{0xff}, 128))
	for k, s := range []string{"a", "", long, "ab", long[:127], long, "", "\x00b"} {
		wrote(t, d, 1, s)
		holds(t, "P5.1: Write", d, "", s)
		counts(t, "P5.1: Write", d, k+1, k+1)
	}
	if e := d.Write(0, nil); e != api.OK {
		t.Errorf("P5.1: Write of nil: %d", e)
	}
	for _, n := range []int{129, 130, 256, 1 << 16} {
		if e := d.Write(1, make([]byte, n)); e != api.ErrArg {
			t.Errorf("P5.1: Write of %d bytes: %d", n, e)
		}
	}
	holds(t, "P5.1: behind too long a write", d, "", "\x00b")
	counts(t, "P5.1: behind too long a write", d, 9, 9)
	if b := read(t, d.Cut(slices.Repeat([]bool{true}, 20)), 1); !bytes.Equal(b, padded("\x00b")) {
		t.Errorf("P5.1: a write that was refused is in a Cut: %v", b)
	}
}

func TestSyncMakesAllSafe(t *testing.T) {
	d := made(t, 3)
	d.Sync()
	counts(t, "P5.1: Sync of nothing", d, 0, 0)
	wrote(t, d, 0, "a")
	wrote(t, d, 0, "b")
	counts(t, "P5.1: ahead of Sync", d, 2, 2)
	d.Sync()
	counts(t, "P5.1: behind Sync", d, 2, 0)
	d.Sync()
	counts(t, "P5.1: behind Sync again", d, 2, 0)
	wrote(t, d, 2, "c")
	counts(t, "P5.1: a write behind Sync", d, 3, 1)
	holds(t, "P5.1: Sync changes no sector", d, "b", "", "c")
}

func TestDiskKeepsNothingThatWasHandedIn(t *testing.T) {
	d := made(t, 1)
	given := []byte("abcdef")
	d.Write(0, given[:3])
	if string(given) != "abcdef" {
		t.Errorf("P5.1: Write changed what it was given: %q", given)
	}
	given[0], given[3] = 'x', 'y'
	holds(t, "P5.1: what was given is changed behind Write", d, "abc")
	holds(t, "P5.1: what was given is changed behind Write", d.Cut([]bool{true}), "abc")
	whole := bytes.Repeat([]byte("w"), 128)
	d.Write(0, whole)
	clear(whole)
	holds(t, "P5.1: a whole sector is changed behind Write", d, string(bytes.Repeat([]byte("w"), 128)))
	holds(t, "P5.1: a whole sector is changed behind Write", d.CutAt(2, []bool{false, true}), string(bytes.Repeat([]byte("w"), 128)))
}

func TestReadAnswersItsOwnMemory(t *testing.T) {
	d := made(t, 2)
	wrote(t, d, 0, "abc")
	for i, s := range []string{"abc", ""} {
		one, other := read(t, d, i), read(t, d, i)
		one[0], one[127] = 'x', 'y'
		if !bytes.Equal(other, padded(s)) {
			t.Errorf("P5.1: two answers of Read share memory: %q", other)
		}
		_ = append(one[:0], "overwritten"...)
	}
	holds(t, "P5.1: what was read is changed", d, "abc", "")
	holds(t, "P5.1: what was read is changed", d.Cut([]bool{true}), "abc", "")
	held := read(t, d, 0)
	wrote(t, d, 0, "new")
	if !bytes.Equal(held, padded("abc")) {
		t.Errorf("P5.1: a Write changed what Read answered: %q", held)
	}
}

func TestDisksAreApart(t *testing.T) {
	one, other := made(t, 2), made(t, 2)
	wrote(t, one, 0, "a")
	one.Sync()
	wrote(t, one, 1, "b")
	holds(t, "P5.1: another disk", other, "", "")
	counts(t, "P5.1: another disk", other, 0, 0)
}

func TestNilDisk(t *testing.T) {
	var d *Disk
	for _, i := range []int{0, -1, 5} {
		if b, e := d.Read(i); b != nil || e != api.ErrArg {
			t.Errorf("P5.1: Read(%d) of nil: %v, %d", i, b, e)
		}
		if e := d.Write(i, []byte("a")); e != api.ErrArg {
			t.Errorf("P5.1: Write(%d) of nil: %d", i, e)
		}
		if d.CutAt(i, nil) != nil || d.CutAt(i, []bool{true}) != nil {
			t.Errorf("P5.1: CutAt(%d) of nil", i)
		}
	}
	d.Sync()
	if d.Size() != 0 || d.Pending() != 0 || d.Writes() != 0 {
		t.Errorf("P5.1: of nil: %d, %d, %d", d.Size(), d.Pending(), d.Writes())
	}
	if d.Cut(nil) != nil || d.Cut([]bool{true}) != nil {
		t.Error("P5.1: Cut of nil")
	}
}
