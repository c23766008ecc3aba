package codec

import (
	"caracole/api"
)

// reader takes bytes from the front. One that cannot go on gives up by a panic: nobody between the
// byte that is missing and the one who catches it has to ask.
type reader struct {
	left []byte
}

// gaveUp is what a reader panics with, and nobody else.
type gaveUp struct{}

// read tells the deeds that bytes are, from the first byte to the last one; false: they are not just deeds.
func read(b []byte) (l api.Round, fits bool) {
	defer func() {
		switch gave := recover(); gave {
		case nil:
		case gaveUp{}:
			l, fits = nil, false
		default:
			// A panic that is not the reader's own is a fault of the program, not one of the bytes.
			panic(gave)
		}
	}()
	r := &reader{left: b}
	l = r.round()
	r.end()
	return l, true
}

// round takes deeds as they come: whether they are well made is asked when all are read.
func (r *reader) round() api.Round {
	l := make(api.Round, r.next())
	for i := range l {
		l[i] = r.deed()
	}
	return l
}

func (r *reader) deed() api.Deed {
	d := make(api.Deed, r.next())
	for i := range d {
		d[i] = r.op()
	}
	return d
}

func (r *reader) op() api.Op {
	o := api.Op{Kind: int(r.next())}
	if o.Kind == api.ONum {
		o.A = int(r.next())
		o.N = r.number()
		return o
	}
	both := int(r.next())
	o.A, o.B = both%16, both/16
	o.C = int(r.next())
	return o
}

func (r *reader) number() int64 {
	var n uint64
	for i := range 8 {
		n |= uint64(r.next()) << (8 * i)
	}
	return int64(n)
}

func (r *reader) next() byte {
	if len(r.left) == 0 {
		panic(gaveUp{})
	}
	b := r.left[0]
	r.left = r.left[1:]
	return b
}

func (r *reader) end() {
	if len(r.left) > 0 {
		panic(gaveUp{})
	}
}
