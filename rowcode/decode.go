package rowcode

import "stile/api"

// noRow is thrown where the bytes are no row's form, however deep that is found.
type noRow struct{}

// rest is what of a form is still to be read.
type rest struct {
	b []byte
}

// Decode is the row of a form, or ErrRowForm.
func Decode(b []byte) (r api.Row, e api.Errno) {
	defer func() {
		thrown := recover()
		if thrown == nil {
			return
		}
		if _, is := thrown.(noRow); !is {
			panic(thrown)
		}
		r, e = nil, api.ErrRowForm
	}()
	form := rest{b}
	for range form.takeLength(1, api.MaxColumns) {
		r = append(r, form.takeValue())
	}
	if len(form.b) > 0 {
		panic(noRow{})
	}
	return r, api.OK
}

func (f *rest) takeValue() api.Value {
	switch f.take(1)[0] {
	case nullMark:
		return api.Value{}
	case numMark:
		return api.Value{Kind: api.Num, N: int64(f.takeWhole(numBytes))}
	case textMark:
		length := f.takeLength(lengthBytes, api.MaxString)
		return api.Value{Kind: api.Text, S: string(f.take(length))}
	case falseMark:
		return api.Value{Kind: api.Bool}
	case trueMark:
		return api.Value{Kind: api.Bool, B: true}
	}
	panic(noRow{})
}

// takeLength is a whole number of so many bytes that says how much comes behind it, which no row has more of than most.
func (f *rest) takeLength(count, most int) int {
	n := f.takeWhole(count)
	if n > uint64(most) {
		panic(noRow{})
	}
	return int(n)
}

// takeWhole is a whole number of so many bytes, the lowest first.
func (f *rest) takeWhole(count int) uint64 {
	var n uint64
	for i, b := range f.take(count) {
		n |= uint64(b) << (8 * i)
	}
	return n
}

func (f *rest) take(count int) []byte {
	// What lies behind the form's length in its memory is not its own, though a slice could reach it.
	if count > len(f.b) {
		panic(noRow{})
	}
	taken := f.b[:count]
	f.b = f.b[count:]
	return taken
}
