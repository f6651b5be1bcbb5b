// Package textbuf is layer 1, a text that is edited: see shared/doc/01-textbuf.md.
package textbuf

import (
	"bytes"
	"slices"
	"strings"

	"taffrail/api"
)

// mostPieces bounds what a Splice walks over: a text in more pieces is laid together anew.
const mostPieces = 64

// Buf is a text in pieces. Several pieces may lie in one array, but the room behind a piece is never another's bytes: that is what lets a piece grow in its place.
type Buf struct {
	most   int
	length int
	pieces [][]byte   // in order, none of them empty
	back   []api.Edit // what takes each Splice back that was taken and not undone
}

// New makes a buffer with text s that may have most bytes.
func New(s string, most int) (*Buf, api.Errno) {
	if most < 0 || most > api.MaxText {
		return nil, api.ErrArg
	}
	if len(s) > most {
		return nil, api.ErrSize
	}
	b := &Buf{most: most}
	b.apply(api.Edit{Ins: s})
	return b, api.OK
}

// Len is how many bytes the text has.
func (b *Buf) Len() int {
	if b == nil {
		return 0
	}
	return b.length
}

// Text is the whole text.
func (b *Buf) Text() string {
	if b == nil {
		return ""
	}
	return b.part(0, b.length)
}

// Slice is the text from byte from on, ahead of byte to.
func (b *Buf) Slice(from, to int) (string, api.Errno) {
	if b == nil {
		return "", api.ErrArg
	}
	if from < 0 || to < from || to > b.length {
		return "", api.ErrRange
	}
	return b.part(from, to), api.OK
}

// Splice takes e.Del bytes at e.At out and puts e.Ins in.
func (b *Buf) Splice(e api.Edit) api.Errno {
	if b == nil {
		return api.ErrArg
	}
	// Differences of numbers within bounds: no sum of what is handed in can wrap round.
	if e.At < 0 || e.At > b.length || e.Del < 0 || e.Del > b.length-e.At {
		return api.ErrRange
	}
	if len(e.Ins) > b.most-(b.length-e.Del) {
		return api.ErrSize
	}
	gone := b.part(e.At, e.At+e.Del)
	b.back = append(b.back, api.Edit{At: e.At, Del: len(e.Ins), Ins: gone})
	b.apply(e)
	return api.OK
}

// Undo takes the last Splice back that was taken and not yet undone; false without one.
func (b *Buf) Undo() bool {
	if b == nil || len(b.back) == 0 {
		return false
	}
	last := len(b.back) - 1
	e := b.back[last]
	b.back[last] = api.Edit{} // else its text would be kept behind the list's end
	b.back = b.back[:last]
	b.apply(e)
	return true
}

// Version is how many Splices were taken, less those undone.
func (b *Buf) Version() int {
	if b == nil {
		return 0
	}
	return len(b.back)
}

// part is the text from from to to, which are in bounds, as new memory.
func (b *Buf) part(from, to int) string {
	var out strings.Builder
	out.Grow(to - from)
	at := 0
	for _, p := range b.pieces {
		begin, end := max(from-at, 0), min(to-at, len(p))
		if begin < end {
			out.Write(p[begin:end])
		}
		at += len(p)
	}
	return out.String()
}

// apply does e, which is in bounds, to the pieces.
func (b *Buf) apply(e api.Edit) {
	from := b.cut(e.At)
	to := b.cut(e.At + e.Del)
	b.pieces = slices.Delete(b.pieces, from, to)
	b.put(from, e.Ins)
	b.length += len(e.Ins) - e.Del
	b.gather()
}

// cut sees to it that a piece begins at byte at, and gives its number (that behind the last one, at the text's end).
func (b *Buf) cut(at int) int {
	for i, p := range b.pieces {
		if at == 0 {
			return i
		}
		if at < len(p) {
			// Without its third index the head would grow over the tail.
			b.pieces[i] = p[:at:at]
			b.pieces = slices.Insert(b.pieces, i+1, p[at:len(p):len(p)])
			return i + 1
		}
		at -= len(p)
	}
	return len(b.pieces)
}

// put lays s ahead of piece i: at the end of the piece ahead, so that typing makes no pieces.
func (b *Buf) put(i int, s string) {
	if s == "" {
		return
	}
	if i > 0 {
		b.pieces[i-1] = append(b.pieces[i-1], s...)
		return
	}
	b.pieces = slices.Insert(b.pieces, 0, []byte(s))
}

// gather makes one piece of too many. What small pieces left of great arrays is free then, too.
func (b *Buf) gather() {
	if len(b.pieces) <= mostPieces {
		return
	}
	whole := bytes.Join(b.pieces, nil)
	b.pieces = [][]byte{whole[:len(whole):len(whole)]}
}
