package wal

import (
	"encoding/binary"
	"hash/crc32"
	"slices"
	"testing"

	"stile/api"
)

// headed is a frame whose head says what it likes of the record.
func headed(length, sum uint32, record string) string {
	b := binary.LittleEndian.AppendUint32(nil, length)
	b = binary.LittleEndian.AppendUint32(b, sum)
	b = append(b, record...)
	for len(b)%8 != 0 {
		b = append(b, 0)
	}
	return string(b)
}

func sumOf(record string) uint32 { return crc32.ChecksumIEEE([]byte(record)) }

// spoiled is a text with another byte at a place.
func spoiled(s string, at int, c byte) string {
	return s[:at] + string([]byte{c}) + s[at+1:]
}

// wrong are bytes with which no right frame begins, by what is wrong with them.
func wrong() map[string]string {
	long := text(8193)
	return map[string]string{
		"noughts":                         "",
		"a length of 0":                   headed(0, 0, ""),
		"a length of 0 and a record":      headed(0, sumOf("abc"), "abc"),
		"a length of 0 and the CRC of 1":  headed(0, 1, ""),
		"a length of 8193":                headed(8193, sumOf(long), long),
		"a length of 2 to the 16":         headed(1<<16, sumOf(noughts(1<<16)), ""),
		"a length of 2 to the 31":         headed(1<<31, 0, "a"),
		"a length of all bits":            headed(1<<32-1, 1<<32-1, ""),
		"a length of 2 to the 32, less 8": headed(1<<32-8, sumOf("a"), "a"),
		"a length by another order":       headed(3<<24, sumOf("abc"), "abc"),
		"another CRC":                     headed(3, sumOf("abc")^1, "abc"),
		"another CRC's highest bit":       headed(3, sumOf("abc")^1<<31, "abc"),
		"no CRC":                          headed(3, 0, "abc"),
		"a CRC by another order":          headed(9, 0x2639f4cb, "123456789"),
		"another byte":                    headed(3, sumOf("abc"), "abd"),
		"another first byte":              headed(3, sumOf("abc"), "bbc"),
		"a length of one more":            headed(4, sumOf("abc"), "abc"),
		"a length of one less":            headed(2, sumOf("abc"), "abc"),
		"no nought right behind it":       spoiled(headed(3, sumOf("abc"), "abc"), 8+3, 1),
		"no nought at its end":            spoiled(headed(3, sumOf("abc"), "abc"), 8+7, 255),
		"no nought amid them":             spoiled(headed(1, sumOf("a"), "a"), 8+4, 7),
		"a right frame behind noughts":    noughts(8) + frame("abc"),
		"a text":                          text(40),
	}
}

func TestOpenStopsAtTheFirstWrongFrame(t *testing.T) {
	const first, sectors = 2, 80
	for name, bad := range wrong() {
		for _, ahead := range [][]string{nil, {"one"}, {"one", text(104)}, {text(120)}, {text(104)}, {text(112)}, {text(96)}, {text(700), "two", text(129)}, {noughts(500)}} {
			for _, behind := range []string{"", frame("behind"), noughts(300) + "far behind"} {
				d := newDisk(t, first+sectors+1)
				lay(t, d, 0, "ahead of the region")
				lay(t, d, first, framesOf(ahead...)+bad+behind)
				lay(t, d, first+sectors, "behind the region")
				l := opened(t, d, first, sectors)
				free := sectors*128 - len(framesOf(ahead...))
				if bad == "" && behind == frame("behind") {
					ahead = append(slices.Clone(ahead), "behind")
					free -= 16
				}
				isLog(t, "P6.1: "+name, l, len(ahead), free, ahead...)
				stands(t, "P6.1: "+name, d, first, sectors, framesOf(ahead...))
				stands(t, "P6.1: "+name, d, 0, 1, "ahead of the region")
				stands(t, "P6.1: "+name, d, first+sectors, 1, "behind the region")
				isLog(t, "P6.1: again: "+name, opened(t, d, first, sectors), len(ahead), free, ahead...)
				if t.Failed() {
					t.Fatalf("P6.1: %s, behind %d records", name, len(ahead))
				}
			}
		}
	}
}

func TestOpenOfAFrameWithoutRoom(t *testing.T) {
	whole := frame(text(248))
	for _, c := range []struct {
		name    string
		region  string
		records []string
	}{
		{"the frame is whole", whole, []string{text(248)}},
		{"its record's last byte is behind the region", headed(249, sumOf(text(249)), text(249))[:256], nil},
		{"its record of noughts goes on behind the region", headed(249, sumOf(noughts(249)), noughts(249))[:256], nil},
		{"a head alone, of noughts, behind a record", frame(text(240)) + headed(1, sumOf("\x00"), ""), []string{text(240)}},
		{"its record is far behind the region", headed(8192, sumOf(text(8192)), text(8192))[:256], nil},
		{"a head alone, behind a record", frame(text(240)) + headed(1, sumOf("a"), ""), []string{text(240)}},
		{"a record cut off", frame("one") + headed(240, sumOf(text(240)), text(232)), []string{"one"}},
		{"a last record just fits", frame("one") + frame(text(232)), []string{"one", text(232)}},
		{"the region is full of small ones", framesOf(slices.Repeat([]string{"b"}, 16)...), slices.Repeat([]string{"b"}, 16)},
	} {
		// What stands right behind the region must not be taken for a part of it.
		for _, beyond := range []string{"", text(249)[248:], noughts(128), text(128)} {
			d := newDisk(t, 4)
			lay(t, d, 0, c.region)
			lay(t, d, 2, beyond)
			l := opened(t, d, 0, 2)
			isLog(t, "P6.1: "+c.name, l, len(c.records), 256-len(framesOf(c.records...)), c.records...)
			stands(t, "P6.1: "+c.name, d, 0, 2, framesOf(c.records...))
			stands(t, "P6.1: behind the region: "+c.name, d, 2, 1, beyond)
		}
	}
}

// TestOpenAsksEachBit changes each bit of a region of frames: the records ahead of it are told alone.
func TestOpenAsksEachBit(t *testing.T) {
	records := []string{"a", text(20), noughts(9), text(100)}
	form := framesOf(records...)
	ends := []int{}
	for i := range records {
		ends = append(ends, len(framesOf(records[:i+1]...)))
	}
	for bit := range 8 * len(form) {
		d := newDisk(t, 2)
		lay(t, d, 0, spoiled(form, bit/8, form[bit/8]^1<<(bit%8)))
		n := 0
		for ends[n] <= bit/8 {
			n++
		}
		l := opened(t, d, 0, 2)
		isLog(t, "P6.1: another bit", l, n, 256-len(framesOf(records[:n]...)), records[:n]...)
		stands(t, "P6.1: another bit", d, 0, 2, framesOf(records[:n]...))
		if t.Failed() {
			t.Fatalf("P6.1: the bit %d was another one", bit)
		}
	}
}

func TestOpenTakesTheLongestRecord(t *testing.T) {
	for _, n := range []int{1, 8191, 8192} {
		d := newDisk(t, 130)
		records := []string{text(n), "x", text(n)}
		lay(t, d, 0, framesOf(records...))
		isLog(t, "P6.1: Open", opened(t, d, 0, 130), 3, 130*128-len(framesOf(records...)), records...)
	}
}

func TestALogThatWasOpenedGoesOn(t *testing.T) {
	d := newDisk(t, 5)
	lay(t, d, 0, framesOf("one", text(100))+text(300))
	l := opened(t, d, 0, 5)
	appended(t, l, "three")
	isLog(t, "P6.1: Append behind Open", l, 2, 640-16-112-16, "one", text(100), "three")
	flushed(t, l)
	stands(t, "P6.1: Append behind Open", d, 0, 5, framesOf("one", text(100), "three"))
	if e := l.Append(make([]byte, 640-16-112-16-7)); e != api.ErrWalFull {
		t.Errorf("P6.1: Append behind Open: %d", e)
	}
	appended(t, l, text(640-16-112-16-8))
	flushed(t, l)
	isLog(t, "P6.1: a full log", opened(t, d, 0, 5), 4, 0, "one", text(100), "three", text(640-16-112-16-8))
}

func FuzzOpen(f *testing.F) {
	f.Add([]byte(framesOf("one", text(100), noughts(9))), []byte("more"))
	for _, bad := range wrong() {
		f.Add([]byte(frame("one")+bad+frame("two")), []byte(text(130)))
	}
	f.Fuzz(func(t *testing.T, region, more []byte) {
		const sectors = 8
		region = region[:min(len(region), sectors*128)]
		d := newDisk(t, sectors)
		lay(t, d, 0, string(region))
		l := opened(t, d, 0, sectors)
		form := framesOf(texts(l)...)
		stands(t, "P6.1: Open", d, 0, sectors, form)
		if whole := string(region) + noughts(sectors*128-len(region)); whole[:len(form)] != form {
			t.Errorf("P6.1: Open tells %q of %q", form, region)
		}
		if l.Flushed() != len(l.Records()) || l.Free() != sectors*128-len(form) {
			t.Errorf("P6.1: Open: Flushed %d of %d, Free %d", l.Flushed(), len(l.Records()), l.Free())
		}
		fits := len(more) > 0 && len(more) <= api.MaxRecord && len(frame(string(more))) <= l.Free()
		if e := l.Append(more); (e == api.OK) != fits {
			t.Errorf("P6.1: Append(%d bytes) with %d free: %d", len(more), sectors*128-len(form), e)
		}
		flushed(t, l)
		if fits {
			form += frame(string(more))
		}
		stands(t, "P6.1: Append, Flush", d, 0, sectors, form)
	})
}
