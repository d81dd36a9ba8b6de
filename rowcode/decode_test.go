package rowcode

import (
	"bytes"
	"math"
	"slices"
	"strings"
	"testing"

	"stile/api"
)

func refuse(t *testing.T, b []byte) {
	t.Helper()
	if r, e := Decode(b); len(r) != 0 || e != api.ErrRowForm {
		t.Errorf("P4.1: Decode of %q: %v, %d, not %d alone", b, r, e, api.ErrRowForm)
	}
}

// holdOneForm asks of any bytes: they are refused, or they are the form of the row that is told.
func holdOneForm(t *testing.T, b []byte) {
	t.Helper()
	r, e := Decode(b)
	if e != api.OK {
		if e != api.ErrRowForm || len(r) != 0 {
			t.Fatalf("P4.1: Decode of %q: %v, %d", b, r, e)
		}
		return
	}
	if form, e := Encode(r); e != api.OK || !bytes.Equal(form, b) {
		t.Fatalf("P4.2: %q is told as %v, whose form is %q, %d", b, r, form, e)
	}
}

func TestDecodeTurnsEncodeAround(t *testing.T) {
	for _, r := range rows() {
		back, e := Decode(encoded(t, r))
		if e != api.OK || !slices.Equal(back, r) {
			t.Fatalf("P4.2: %v comes back as %v, %d", r, back, e)
		}
	}
}

func TestDecodeTellsValues(t *testing.T) {
	for _, c := range []struct {
		form string
		row  api.Row
	}{
		{"\x00", nil},
		{"\x01\x00", api.Row{null}},
		{"\x02\x01\x01\x00\x00\x00\x00\x00\x00\x00\x00", api.Row{num(1), null}},
		{"\x01\x01\xff\xff\xff\xff\xff\xff\xff\xff", api.Row{num(-1)}},
		{"\x02\x01\x00\x00\x00\x00\x00\x00\x00\x80\x01\xff\xff\xff\xff\xff\xff\xff\x7f", api.Row{num(math.MinInt64), num(math.MaxInt64)}},
		{"\x04\x02\x00\x00\x02\x03\x00a \x00\x03\x04", api.Row{text(""), text("a \x00"), boolean(false), boolean(true)}},
		{"\x01\x02\x90\x01" + strings.Repeat("\xff", 400), api.Row{text(strings.Repeat("\xff", 400))}},
		{"\x0c" + strings.Repeat("\x04", 12), slices.Repeat(api.Row{boolean(true)}, 12)},
	} {
		got, e := Decode([]byte(c.form))
		if e != api.OK || !slices.Equal(got, c.row) {
			t.Errorf("P4.1: Decode of %q: %v, %d, not %v", c.form, got, e, c.row)
		}
	}
}

func TestDecodeOfNothing(t *testing.T) {
	refuse(t, nil)
	refuse(t, []byte{})
	// A whole form lies behind the length: it is not looked at.
	refuse(t, []byte{1, 0}[:0])
}

// Each form is cut off at each of its places; the rest of it still lies behind the length.
func TestDecodeOfFormsCutOff(t *testing.T) {
	for _, v := range rightValues() {
		for _, r := range []api.Row{{v}, {null, v, boolean(true)}, {v, num(-1), text("b\x00")}} {
			form := encoded(t, r)
			for end := range form {
				refuse(t, form[:end])
				refuse(t, slices.Clone(form[:end]))
			}
		}
	}
}

func TestDecodeOfTooManyValues(t *testing.T) {
	for n := 13; n < 256; n++ {
		for _, behind := range [][]byte{nil, make([]byte, n), make([]byte, 12), bytes.Repeat([]byte{trueMark}, n)} {
			refuse(t, append([]byte{byte(n)}, behind...))
		}
	}
}

func TestDecodeOfMoreOrFewerValuesThanTold(t *testing.T) {
	for told := range 13 {
		for there := range 14 {
			if told != there {
				refuse(t, append([]byte{byte(told)}, make([]byte, there)...))
			}
		}
	}
}

func TestDecodeOfUnknownBytesAheadOfAValue(t *testing.T) {
	for b := 5; b < 256; b++ {
		sign := byte(b)
		refuse(t, []byte{1, sign})
		refuse(t, []byte{1, sign, 0, 0, 0, 0, 0, 0, 0, 0})
		refuse(t, []byte{1, sign, 0, 0})
		refuse(t, []byte{2, 0, sign})
		refuse(t, []byte{2, sign, 0})
		refuse(t, append(append([]byte{12}, make([]byte, 11)...), sign))
	}
}

func TestDecodeOfTextsToldToBeTooLong(t *testing.T) {
	for _, n := range []int{401, 402, 511, 512, 1000, 32767, 32768, 65535} {
		form := append([]byte{1, textMark, byte(n), byte(n >> 8)}, make([]byte, n)...)
		refuse(t, form)
		refuse(t, form[:4])
		refuse(t, form[:4+400])
		refuse(t, append([]byte{2, nullMark}, form[1:]...))
	}
}

func TestDecodeOfBytesBehindTheForm(t *testing.T) {
	for _, r := range rows() {
		form := encoded(t, r)
		for _, behind := range []string{"\x00", "\x01", "\x04", "\xff", " ", "\x00\x00", "\x01\x00"} {
			refuse(t, append(slices.Clone(form), behind...))
		}
	}
	for b := range 256 {
		refuse(t, []byte{0, byte(b)})
		refuse(t, []byte{1, nullMark, byte(b)})
	}
}

func TestDecodeOfAllShortBytes(t *testing.T) {
	for a := range 256 {
		holdOneForm(t, []byte{byte(a)})
		for b := range 256 {
			holdOneForm(t, []byte{byte(a), byte(b)})
		}
	}
	few := []byte{0, 1, 2, 3, 4, 5, 12, 13, 255}
	var longer func(ahead []byte)
	longer = func(ahead []byte) {
		holdOneForm(t, ahead)
		if len(ahead) == 6 {
			return
		}
		for _, b := range few {
			longer(append(slices.Clone(ahead), b))
		}
	}
	longer(nil)
}

// One byte of a form is another one: what comes of it is refused, or the form of another row.
func TestDecodeOfFormsWithOneByteChanged(t *testing.T) {
	for _, r := range []api.Row{{num(1), null}, {text("ab"), boolean(true)}, {text(""), num(-1), boolean(false)}, {text(strings.Repeat("\x00", 300)), null}} {
		form := encoded(t, r)
		for at := range min(len(form), 20) {
			for b := range 256 {
				changed := slices.Clone(form)
				changed[at] = byte(b)
				holdOneForm(t, changed)
				if back, e := Decode(changed); !bytes.Equal(changed, form) && e == api.OK && slices.Equal(back, r) {
					t.Fatalf("P4.2: %q and %q are both told as %v", form, changed, r)
				}
			}
		}
	}
}

func TestDecodeKeepsNothingOfItsBytes(t *testing.T) {
	row := api.Row{text("abc "), num(7), boolean(true), text("d")}
	form := encoded(t, row)
	kept := slices.Clone(form)
	first, _ := Decode(form)
	second, _ := Decode(form)
	if !bytes.Equal(form, kept) {
		t.Errorf("P4.1: Decode changed its bytes: %q, not %q", form, kept)
	}
	clear(form)
	clear(first)
	if !slices.Equal(second, row) {
		t.Errorf("P4.1: the row hangs on its bytes or on another answer: %v, not %v", second, row)
	}
}

// FuzzDecode holds that nothing panics, and that no bytes but a row's own form are told as a row.
func FuzzDecode(f *testing.F) {
	for _, s := range []string{"", "\x00", "\x01\x05", "\x02\x01\x01\x00\x00\x00\x00\x00\x00\x00\x00", "\x02\x02\x02\x00a \x04", "\x01\x02\x91\x01"} {
		f.Add([]byte(s))
	}
	f.Fuzz(func(t *testing.T, b []byte) {
		holdOneForm(t, b)
	})
}
