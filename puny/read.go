package puny

import (
	"slices"

	"bastion/api"
)

// cursor stands in a text of digits.
type cursor struct {
	text string
	at   int
}

func (c *cursor) left() bool { return c.at < len(c.text) }

// next is the number of the digit at which the cursor stands, and moves on; false, if there is none.
func (c *cursor) next() (int64, bool) {
	if !c.left() {
		return 0, false
	}
	b := c.text[c.at]
	c.at++
	switch {
	case 'a' <= b && b <= 'z':
		return int64(b - 'a'), true
	case 'A' <= b && b <= 'Z':
		return int64(b - 'A'), true
	case '0' <= b && b <= '9':
		return int64(b-'0') + 26, true
	}
	return 0, false
}

// reader is what has been read, and what is reckoned with on the way.
type reader struct {
	cursor     cursor
	out        []rune
	i, n, bias int64
}

// step reads a number, and puts the rune that it says where it says.
func (r *reader) step() api.Errno {
	old := r.i
	if why := r.number(); why != api.OK {
		return why
	}
	places := int64(len(r.out)) + 1
	r.bias = biasBehind(r.i-old, places, old == 0)
	r.n += r.i / places
	r.i %= places
	if r.n > most || !mayBe(rune(r.n)) {
		return api.ErrPuny
	}
	r.out = slices.Insert(r.out, int(r.i), rune(r.n))
	r.i++
	return api.OK
}

// number makes i more by the next number.
func (r *reader) number() api.Errno {
	w := int64(1)
	for k := int64(base); ; k += base {
		d, is := r.cursor.next()
		if !is {
			return api.ErrPuny
		}
		r.i += d * w
		if r.i > most {
			return api.ErrOver
		}
		t := threshold(k, r.bias)
		if d < t {
			return api.OK
		}
		w *= base - t
		if w > most {
			return api.ErrOver
		}
	}
}
