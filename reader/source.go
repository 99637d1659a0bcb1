package reader

import (
	"chainman/api"
	"chainman/fs"
	"chainman/recfile"
)

// source is where bytes come from: a file of a disk, and a place in it.
type source struct {
	disk *fs.Disk
	name string
	at   int
	left int // bytes from the place on, as the file was when it was begun
}

// begin asks how long the file is, and moves the place behind its head, which has to be that of the size.
func (s *source) begin(size int) api.Errno {
	length, e := s.disk.Size(s.name)
	if e != api.OK {
		return e
	}
	if length < recfile.Head {
		return api.ErrCorrupt
	}
	s.left = length
	head, e := s.look(recfile.Head)
	if e != api.OK {
		return e
	}
	if told, ok := recfile.GetHead(head); !ok || told != size {
		return api.ErrCorrupt
	}
	s.pass(recfile.Head)
	return api.OK
}

// look answers the next n bytes, or as many as are left; the place stays.
func (s *source) look(n int) (string, api.Errno) {
	return s.disk.Read(s.name, s.at, min(n, s.left))
}

// pass moves the place behind the next n bytes.
func (s *source) pass(n int) {
	s.at += n
	s.left -= n
}
