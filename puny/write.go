package puny

// writer is what has been written, and what is reckoned with on the way.
type writer struct {
	out            []byte
	n, delta, bias int64
	written, plain int64 // runes; of these below 128
}

// begin writes the runes below 128.
func begin(l []rune) *writer {
	w := &writer{n: initialN, bias: initialBias}
	for _, r := range l {
		if r < initialN {
			w.out = append(w.out, byte(r))
		}
	}
	w.plain = int64(len(w.out))
	w.written = w.plain
	if w.plain > 0 {
		w.out = append(w.out, '-')
	}
	return w
}

// round writes all that are the least rune of those that are left; false, if delta is too great.
func (w *writer) round(l []rune) bool {
	m := w.least(l)
	if !w.raise((m - w.n) * (w.written + 1)) {
		return false
	}
	w.n = m
	for _, r := range l {
		if int64(r) < w.n && !w.raise(1) {
			return false
		}
		if int64(r) == w.n {
			w.put()
		}
	}
	w.n++
	return w.raise(1)
}

// least is the least rune of at least n: there is one as long as any is left.
func (w *writer) least(l []rune) int64 {
	m := int64(most)
	for _, r := range l {
		if int64(r) >= w.n {
			m = min(m, int64(r))
		}
	}
	return m
}

func (w *writer) raise(by int64) bool {
	w.delta += by
	return w.delta <= most
}

// put writes delta, which says where the next rune stands.
func (w *writer) put() {
	w.number(w.delta)
	w.bias = biasBehind(w.delta, w.written+1, w.written == w.plain)
	w.delta = 0
	w.written++
}

func (w *writer) number(q int64) {
	for k := int64(base); ; k += base {
		t := threshold(k, w.bias)
		if q < t {
			w.out = append(w.out, digit(q))
			return
		}
		w.out = append(w.out, digit(t+(q-t)%(base-t)))
		q = (q - t) / (base - t)
	}
}

// digit is the byte of a number below 36.
func digit(n int64) byte {
	if n < 26 {
		return 'a' + byte(n)
	}
	return '0' + byte(n-26)
}
