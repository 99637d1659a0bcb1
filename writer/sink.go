package writer

import (
	"chainman/api"
	"chainman/fs"
)

// sink is where bytes go: a file of a disk.
type sink struct {
	disk *fs.Disk
	name string
}

// begin creates the file, and lets it begin with the head.
func (s sink) begin(head string) api.Errno {
	if e := s.disk.Create(s.name); e != api.OK {
		return e
	}
	return s.add(head)
}

func (s sink) add(bytes string) api.Errno { return s.disk.Append(s.name, bytes) }

// end lets the file end with these bytes, of which none waits then.
func (s sink) end(bytes string) api.Errno {
	if e := s.add(bytes); e != api.OK {
		return e
	}
	return s.disk.Sync(s.name)
}
