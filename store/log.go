package store

import (
	"math"

	"lychgate/api"
	"lychgate/codec"
	"lychgate/journal"
)

// The log is a journal: each record is an event's number, from 1 on, and
// codec's bytes of the event.
const logPath = "/log"

// loadLog takes the events that the log holds behind the snapshot.
func (s *Store) loadLog() error {
	j, err := journal.Open(s.files, logPath)
	if err != nil {
		return err
	}
	if err := j.Close(); err != nil {
		return err
	}
	s.logSize = j.Size()
	for _, r := range j.Records() {
		if err := s.take(r); err != nil {
			return err
		}
	}
	return nil
}

// take takes the event of a record of the log, or passes over what the snapshot
// holds. No crash leaves a record that is neither that nor the next event.
func (s *Store) take(r []byte) error {
	if len(r) < numberSize {
		return api.ErrBroken
	}
	n, b := getNumber(r, numberSize), r[numberSize:]
	switch {
	case n < 1:
		return api.ErrBroken
	case n <= s.snap.number:
		return nil
	case n-1 != s.Number():
		return api.ErrBroken
	}
	if _, err := codec.ReadEvent(b); err != nil {
		return err
	}
	s.events = append(s.events, b)
	return nil
}

// log lets the log hold one more event, whole or not at all: one write of the
// file system is so.
func (s *Store) log(b []byte) error {
	if s.Number() == math.MaxInt64 {
		return api.ErrFull
	}
	r := make([]byte, numberSize, numberSize+len(b))
	putNumber(r, s.Number()+1, numberSize)
	r, err := journal.Frame(append(r, b...))
	if err != nil {
		return err
	}
	// The file system would say ErrBig, but it isn't the event that is too big.
	if s.logSize+len(r) > mostBytes {
		return api.ErrFull
	}
	err = with(s.files, logPath, func(fd int) error { return s.files.Write(fd, s.logSize, r) })
	if err != nil {
		return err
	}
	s.logSize += len(r)
	return nil
}

// emptyLog lets the log hold no events.
func (s *Store) emptyLog() error {
	err := with(s.files, logPath, func(fd int) error { return s.files.Truncate(fd, 0) })
	if err != nil {
		return err
	}
	s.logSize = 0
	return nil
}
