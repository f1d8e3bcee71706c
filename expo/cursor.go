package expo

// cursor goes through a line from the front. Where a part of the line is refused, at is left at the place of the refusal.
type cursor struct {
	s  string
	at int
}

// ended tells whether nothing is left.
func (c *cursor) ended() bool { return c.at == len(c.s) }

// take passes b by, if it is next.
func (c *cursor) take(b byte) bool {
	if c.ended() || c.s[c.at] != b {
		return false
	}
	c.at++
	return true
}

// blanks passes blanks by, and tells whether there were any.
func (c *cursor) blanks() bool {
	from := c.at
	for !c.ended() && isBlank(c.s[c.at]) {
		c.at++
	}
	return c.at > from
}

// piece is what stands ahead of the next blank or the end.
func (c *cursor) piece() string {
	from := c.at
	for !c.ended() && !isBlank(c.s[c.at]) {
		c.at++
	}
	return c.s[from:c.at]
}

// name is the longest name that stands here, however long; empty, if none does. Colons count as letters, if they may.
func (c *cursor) name(colons bool) string {
	from := c.at
	for !c.ended() {
		b := c.s[c.at]
		if !isLetter(b) && !(b == ':' && colons) && !(isDigit(b) && c.at > from) {
			break
		}
		c.at++
	}
	return c.s[from:c.at]
}

func isBlank(b byte) bool { return b == ' ' || b == '\t' }

func isDigit(b byte) bool { return '0' <= b && b <= '9' }

func isLetter(b byte) bool { return 'a' <= b && b <= 'z' || 'A' <= b && b <= 'Z' || b == '_' }
