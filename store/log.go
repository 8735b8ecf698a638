package store

import (
	"math"

	"lychgate/api"
	"lychgate/codec"
	"lychgate/journal"
)

// The log is a journal: each record is an event's number, from 1 on, and
// codec's bytes of the event.
const logPath = "/log"

// loadLog takes the events that the log holds behind the snapshot.
func (s *Store) loadLog() error {
	j, err := journal.Open(s.files, logPath)
	if err != nil {
		return err
	}
	if err := j.Close(); err != nil {
		return err
	}
	s.logSize = j.Size()
	for _, r := range j.Records() {
		if err := s.take(r); err != nil {
			return err
		}
	}
	return nil
}

// take takes the event of a record of the log, or passes over what the snapshot
// holds. No crash leaves a record that is neither that nor the next event.
func (s *Store) take(r []byte) error {
	if len(r) < numberSize {
		return api.ErrBroken
	}
	n, b := getNumber(r, numberSize), r[numberSize:]
	switch {
	case n < 1:
		return api.ErrBroken
	case n <= s.snap.number:
		return nil
	case n-1 != s.Number():
		return api.ErrBroken
	}
	if _, err := codec.ReadEvent(b); err != nil {
		return err
	}
	s.events = append(s.events, b)
	return nil
}

// log lets the log hold one more event, whole or not at all: one write of the
// file system is so.
func (s *Store) log(b []byte) error {
	if s.Number() == math.MaxInt64 {
		return api.ErrFull
	}
	r := make([]byte, numberSize, numberSize+len(b))
	putNumber(r, s.Number()+1, numberSize)
	r = append(r, b...)
	return with(s.files, logPath, func(fd int) error { return s.write(fd, r) })
}

// write lets a record of r stand at the log's end.
func (s *Store) write(fd int, r []byte) error {
	framed, tooBig := journal.Frame(r)
	n := len(framed)
	if tooBig != nil {
		// It would take more than the longest record does.
		n = api.MaxRecord
	}
	// That there is no room counts ahead of tooBig.
	if !s.hasRoom(n) {
		return api.ErrFull
	}
	if tooBig != nil {
		return tooBig
	}
	if err := s.files.Write(fd, s.logSize, framed); err != nil {
		return err
	}
	s.logSize += n
	return nil
}

// hasRoom tells whether the log may have n more bytes, and the disk has blocks
// for them.
func (s *Store) hasRoom(n int) bool {
	end := s.logSize + n
	free, _ := s.files.Free()
	return end <= mostBytes && blocks(end)-blocks(s.logSize) <= free
}

// emptyLog lets the log hold no events.
func (s *Store) emptyLog() error {
	err := with(s.files, logPath, func(fd int) error { return s.files.Truncate(fd, 0) })
	if err != nil {
		return err
	}
	s.logSize = 0
	return nil
}
