package sfield

// cursor is what is left of a text that is being read.
type cursor struct{ left string }

func (c *cursor) done() bool { return c.left == "" }

// peek is the next byte; at the end it is 0, with which nothing begins.
func (c *cursor) peek() byte {
	if c.done() {
		return 0
	}
	return c.left[0]
}

// next takes the next byte; at the end it is 0, which is in nothing.
func (c *cursor) next() byte {
	b := c.peek()
	if !c.done() {
		c.left = c.left[1:]
	}
	return b
}

// take takes the next byte, if it is that one.
func (c *cursor) take(b byte) bool {
	if c.done() || c.left[0] != b {
		return false
	}
	c.left = c.left[1:]
	return true
}

// run takes what bytes of a kind are next.
func (c *cursor) run(of func(byte) bool) string {
	n := 0
	for n < len(c.left) && of(c.left[n]) {
		n++
	}
	out := c.left[:n]
	c.left = c.left[n:]
	return out
}
