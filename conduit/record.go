package conduit

// A log is a row of records. A record is a byte that says what wrote it, two
// bytes for the length of the rest, the higher one first, and events. A number
// in an event has one byte, since none is above 120. A text has its length
// ahead of it, so that any bytes may be in it.

// What wrote a record.
const (
	byCall    = '+' // a call, behind all that was there
	byCompact = '=' // Compact, in the place of all that was there
)

// written makes a record of events: of none it makes nothing.
func written(by byte, events []event) string {
	if len(events) == 0 {
		return ""
	}
	var told []byte
	for _, e := range events {
		told = appendEvent(told, e)
	}
	head := []byte{by, byte(len(told) >> 8), byte(len(told))}
	return string(append(head, told...))
}

func appendEvent(told []byte, e event) []byte {
	if e.kind != wasTaken {
		return append(told, byte(e.kind), byte(e.place), byte(e.failures))
	}
	told = append(told, byte(e.kind), byte(e.batch.Destination))
	for _, text := range []string{e.batch.Tenant, e.batch.ID, e.batch.Body} {
		told = append(told, byte(len(text)))
		told = append(told, text...)
	}
	return told
}

// reader takes a text to pieces from its beginning on. As soon as a piece is
// not there whole, the reader is short, and has nothing left.
type reader struct {
	rest  string
	short bool
}

func (r *reader) piece(length int) string {
	if length > len(r.rest) {
		*r = reader{short: true}
		return ""
	}
	piece := r.rest[:length]
	r.rest = r.rest[length:]
	return piece
}

func (r *reader) number() int {
	if piece := r.piece(1); piece != "" {
		return int(piece[0])
	}
	return 0
}

func (r *reader) text() string {
	return r.piece(r.number())
}

// record tells what wrote a record, and the bytes of its events.
func (r *reader) record() (by int, told string) {
	by = r.number()
	length := r.number() << 8
	length += r.number()
	return by, r.piece(length)
}

// event tells an event as its bytes say it, which need not make sense.
func (r *reader) event() event {
	e := event{kind: r.number()}
	if e.kind != wasTaken {
		e.place = r.number()
		e.failures = r.number()
		return e
	}
	e.batch.Destination = r.number()
	e.batch.Tenant = r.text()
	e.batch.ID = r.text()
	e.batch.Body = r.text()
	return e
}
