package keycode

import (
	"slices"
	"strings"
	"testing"

	"stile/api"
)

// withoutBlanks is a row as Decode tells it.
func withoutBlanks(r api.Row) api.Row {
	out := slices.Clone(r)
	for i := range out {
		out[i].S = strings.TrimRight(out[i].S, " ")
	}
	return out
}

func refuse(t *testing.T, s string) {
	t.Helper()
	if r, e := Decode(s); len(r) != 0 || e != api.ErrKeyForm {
		t.Errorf("P3.1: Decode of %q: %v, %d, not %d alone", s, r, e, api.ErrKeyForm)
	}
}

func TestDecodeTurnsEncodeAround(t *testing.T) {
	for _, r := range append(rows(), nil) {
		back, e := Decode(Encode(r))
		if e != api.OK || !slices.Equal(back, withoutBlanks(r)) {
			t.Fatalf("P3.3: %v comes back as %v, %d", r, back, e)
		}
	}
}

func TestDecodeOfNothing(t *testing.T) {
	if r, e := Decode(""); len(r) != 0 || e != api.OK {
		t.Errorf("P3.1: Decode of nothing: %v, %d", r, e)
	}
}

func TestDecodeTellsValues(t *testing.T) {
	want := api.Row{null, num(-1), text("a\x00 b"), boolean(true), text(""), boolean(false)}
	got, e := Decode("\x01\x02\x7f\xff\xff\xff\xff\xff\xff\xff\x03a\x00\xff b\x00\x00\x04\x01\x03\x00\x00\x04\x00")
	if e != api.OK || !slices.Equal(got, want) {
		t.Errorf("P3.1: %v, %d, not %v", got, e, want)
	}
}

// A code is cut off at each of its places: it is one just if whole values are left.
func TestDecodeOfCodesCutOff(t *testing.T) {
	for _, r := range []api.Row{{null, null}, {num(-1), num(1 << 40)}, {text("a\x00b\xff"), text(""), text("\x00")}, {boolean(true), boolean(false)}, {num(5), text("x y"), null, boolean(true)}} {
		whole := map[int]int{}
		for n := range len(r) + 1 {
			whole[len(Encode(r[:n]))] = n + 1
		}
		s := Encode(r)
		for end := range len(s) + 1 {
			n := whole[end]
			if n == 0 {
				refuse(t, s[:end])
				continue
			}
			if got, e := Decode(s[:end]); e != api.OK || !slices.Equal(got, r[:n-1]) {
				t.Errorf("P3.1: Decode of %q: %v, %d, not %v", s[:end], got, e, r[:n-1])
			}
		}
	}
}

func TestDecodeOfUnknownFirstBytes(t *testing.T) {
	for b := range 256 {
		if b >= 1 && b <= 4 {
			continue
		}
		sign := string([]byte{byte(b)})
		refuse(t, sign)
		refuse(t, sign+"\x01")
		refuse(t, sign+"a\x00\x00")
		refuse(t, "\x01"+sign)
	}
}

func TestDecodeOfTextsWithAStrayNought(t *testing.T) {
	for b := 1; b < 255; b++ {
		sign := string([]byte{byte(b)})
		refuse(t, "\x03\x00"+sign)
		refuse(t, "\x03\x00"+sign+"\x00\x00")
		refuse(t, "\x03a\x00\xff\x00"+sign+"\x00\x00")
	}
}

func TestDecodeOfTextsWithBlanksAtTheirEnds(t *testing.T) {
	for _, s := range []string{"\x03 \x00\x00", "\x03a \x00\x00", "\x03a   \x00\x00", "\x03\x00\xff \x00\x00", "\x01\x03a \x00\x00", "\x03a \x00\x00\x01"} {
		refuse(t, s)
	}
	for code, words := range map[string]string{"\x03 a\x00\x00": " a", "\x03 \x00\xff\x00\x00": " \x00", "\x03a\t\x00\x00": "a\t"} {
		if r, e := Decode(code); e != api.OK || !slices.Equal(r, api.Row{text(words)}) {
			t.Errorf("P3.1: Decode of %q: %v, %d", code, r, e)
		}
	}
}

func TestDecodeOfTruthsThatAreNone(t *testing.T) {
	for b := 2; b < 256; b++ {
		sign := string([]byte{byte(b)})
		refuse(t, "\x04"+sign)
		refuse(t, "\x01\x04"+sign)
	}
}

func TestDecodeOfBytesBehindACode(t *testing.T) {
	for _, v := range rightValues() {
		s := Encode(api.Row{v})
		for _, behind := range []string{"\x00", "\x05", "\xff", " ", "\x02", "\x03", "\x04", "\x03a", "\x00\x00", "\x01\x00"} {
			refuse(t, s+behind)
		}
		refuse(t, Above(s))
	}
}

// FuzzDecode holds that nothing panics, and that no text but a row's own code is told as a row.
func FuzzDecode(f *testing.F) {
	for _, s := range []string{"", "\x01", "\x02\x7f\xff\xff\xff\xff\xff\xff\xff", "\x03a\x00\xff\x00\x00", "\x04\x01", "\x03a \x00\x00"} {
		f.Add(s)
	}
	f.Fuzz(func(t *testing.T, s string) {
		r, e := Decode(s)
		switch {
		case e == api.OK && Encode(r) != s:
			t.Errorf("P3.3: %q is told as %v, whose code is %q", s, r, Encode(r))
		case e != api.OK && (e != api.ErrKeyForm || len(r) != 0):
			t.Errorf("P3.1: Decode of %q: %v, %d", s, r, e)
		}
	})
}
