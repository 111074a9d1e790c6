package feed

// room is how many bytes a piece has room for: few, since what is left of a
// piece is copied forward each time that some of it is used.
const room = 64

// piece is some bytes, and the piece behind them.
type piece struct {
	data []byte
	next *piece
}

// queue is bytes in their order. They are cut into pieces, so that bytes that
// are used can be given up at once, however many follow them. Only the last
// piece may be less than full, but for what was used of the first one.
type queue struct {
	first, last *piece
	size        int
}

// push appends the bytes of b.
func (q *queue) push(b []byte) {
	q.size += len(b)
	for len(b) > 0 {
		if q.last == nil || len(q.last.data) == room {
			q.extend()
		}
		n := min(len(b), room-len(q.last.data))
		q.last.data = append(q.last.data, b[:n]...)
		b = b[n:]
	}
}

// extend appends a piece without bytes.
func (q *queue) extend() {
	p := &piece{data: make([]byte, 0, room)}
	if q.last == nil {
		q.first = p
	} else {
		q.last.next = p
	}
	q.last = p
}

// drop gives up the first n bytes of a queue that has them, and has a piece.
// The last piece stays even without bytes, for those that will be pushed.
func (q *queue) drop(n int) {
	q.size -= n
	for n >= len(q.first.data) && q.first.next != nil {
		n -= len(q.first.data)
		q.first = q.first.next
	}
	p := q.first
	p.data = p.data[:copy(p.data, p.data[n:])]
}

// complete appends bytes from the front to b until b has n of them; they stay.
func (q *queue) complete(b []byte, n int) []byte {
	for p := q.first; p != nil && len(b) < n; p = p.next {
		b = append(b, p.data[:min(len(p.data), n-len(b))]...)
	}
	return b
}
