package image

import (
	"poste/api"
	"poste/bytes"
	"poste/message"
	"poste/state"
)

// reader also keeps whether a count was below 0: of that no bytes are missing,
// so a bytes.Reader alone goes on as of an empty list.
type reader struct {
	*bytes.Reader
	below bool
}

// Read answers the state that b tells, or ErrBytes.
func Read(b []byte) (api.State, api.Errno) {
	r := &reader{Reader: bytes.NewReader(b)}
	s := api.State{Next: r.Int(), Objects: list(r, r.object)}
	if r.below || !r.Done() || !state.Right(s) {
		return api.State{}, api.ErrBytes
	}
	return s, api.OK
}

// object answers the object that r reads next.
func (r *reader) object() api.Object {
	return api.Object{
		Name:  r.Text(),
		Kind:  r.Int(),
		Limit: r.Int(),
		Rows:  list(r, r.row),
		Msgs:  list(r, r.msg),
		Dead:  list(r, r.msg),
	}
}

// row answers the row that r reads next.
func (r *reader) row() api.Row { return api.Row{Key: r.Text(), Value: r.Text()} }

// msg answers the message that r reads next.
func (r *reader) msg() api.Msg { return message.Read(r.Reader) }

// list answers as many as r reads that there are, each one by next. The count
// is taken at its word for no more than the next one: what claims too much ends
// where the bytes do.
func list[T any](r *reader, next func() T) []T {
	count := r.Int()
	if count < 0 {
		r.below = true
	}
	var l []T
	for i := 0; i < count && !r.Failed(); i++ {
		l = append(l, next())
	}
	return l
}
