package keep

import (
	"poste/api"
	"poste/effect"
	"poste/image"
	"poste/log"
	"poste/roots"
	"poste/sectors"
	"poste/state"
)

// found answers the store as it lies on d: the newest image with all records of
// its epoch done; false: these bytes are none.
func found(d *sectors.Disk) (*Store, bool) {
	s := &Store{state: api.State{Next: 1}}
	if epoch, b, there := roots.Read(d, rootsAt, api.AreaLen); there {
		kept, err := image.Read(b)
		if err != api.OK {
			return nil, false
		}
		s.state, s.epoch = kept, epoch
	}
	s.Log = openLog(d, s.epoch)
	for _, b := range s.Records() {
		l, err := effect.Read(b)
		if err != api.OK || !s.turn(l...) {
			return nil, false
		}
	}
	return s, true
}

// turn does effects on the state alone; false: they can't be done.
func (s *Store) turn(l ...api.Effect) bool {
	next, err := state.Apply(s.state, l...)
	if err != api.OK {
		return false
	}
	s.state = next
	return true
}

// lay puts a record of b in the log. If that is full, the state as it is, ahead
// of what b tells, becomes an image first.
func (s *Store) lay(b []byte) bool {
	if !s.there() {
		return false
	}
	err := s.Append(b)
	if err == api.ErrLong {
		if !s.renew() {
			return false
		}
		err = s.Append(b)
	}
	return err == api.OK
}

// there tells whether the disk still has the image and all records of the store.
// One that was opened on a broken disk may have read what was not sure, and a
// crash undid it since: what is put behind that would be lost, too.
func (s *Store) there() bool {
	epoch, _, _ := roots.Read(s.Disk, rootsAt, api.AreaLen)
	return epoch >= s.epoch && len(openLog(s.Disk, s.epoch).Records()) >= len(s.Records())
}

// renew makes the state an image of the next epoch, whose log begins anew. The
// image makes all records of the last epoch old at once.
func (s *Store) renew() bool {
	next := s.epoch + 1
	if !cleared(s.Disk, next) ||
		roots.Write(s.Disk, rootsAt, api.AreaLen, next, image.Bytes(s.state)) != api.OK {
		return false
	}
	s.epoch, s.Log = next, openLog(s.Disk, next)
	return true
}

// cleared leaves the log of an epoch without records; that is sure as soon as
// the epoch's image is. Only a disk that somebody else wrote has some; where they
// stand, the epoch ahead has none that could be lost by this.
func cleared(d *sectors.Disk, epoch int) bool {
	return len(openLog(d, epoch).Records()) == 0 || d.Write(logAt(), make([]byte, api.Sector))
}

func openLog(d *sectors.Disk, epoch int) *log.Log {
	return log.Open(d, logAt(), api.LogLen, epoch)
}
