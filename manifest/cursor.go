package manifest

import (
	"chainman/api"
	"chainman/octet"
)

// octets are bytes in which numbers and letters stand.
type octets string

// number answers what is told by so many bytes from a place on, and true, if they tell a number.
func (o octets) number(at, size int) (int, bool) { return octet.Get(string(o), at, size) }

// letters answers so many bytes from a place on, and true, if they are all there.
func (o octets) letters(at, n int) (string, bool) {
	if at > len(o)-n {
		return "", false
	}
	return string(o[at : at+n]), true
}

// cursor reads the fields of its bytes, one behind the other. That something is wrong stays noted, so that it is asked once, behind the last one.
type cursor struct {
	octets
	at    int
	wrong bool
}

// pass moves the place behind a field of so many bytes, and notes whether it was right.
func (c *cursor) pass(size int, right bool) {
	c.at += size
	c.wrong = c.wrong || !right
}

// next reads a number of so many bytes.
func (c *cursor) next(size int) int {
	n, ok := c.number(c.at, size)
	c.pass(size, ok)
	return n
}

// text reads so many letters.
func (c *cursor) text(n int) string {
	s, ok := c.letters(c.at, n)
	c.pass(n, ok)
	return s
}

// expect reads letters that have to be just these.
func (c *cursor) expect(want string) {
	got := c.text(len(want))
	c.pass(0, got == want)
}

func (c *cursor) file() api.File {
	return api.File{Name: c.text(c.next(nameBytes)), Size: c.next(sizeBytes), Count: c.next(countBytes), Sum: uint32(c.next(sumBytes))}
}

func (c *cursor) manifest() api.Manifest {
	c.expect(mark)
	m := api.Manifest{Stage: c.next(stageBytes), Pass: c.next(passBytes)}
	for range c.next(filesBytes) {
		m.Files = append(m.Files, c.file())
	}
	return m
}

// right: nothing was wrong, and nothing is left.
func (c *cursor) right() bool { return !c.wrong && c.at == len(c.octets) }
