package tree

import (
	"sprue/api"
	"sprue/scan"
)

// words are those of an action, read from the left.
type words struct {
	left []scan.Token // those that are not read yet
	end  int          // the byte behind the last name or sign that was read
	err  api.Errno    // the first one
}

// all reads a source that is one such thing and nothing else.
func all[T any](s string, read func(*reader) T) (T, api.Errno) {
	var none T
	l, e := scan.Tokens(s)
	if e != api.OK {
		return none, e
	}
	r := reader{words: words{left: l}}
	x := read(&r)
	if !r.ended() {
		r.fail(api.ErrForm)
	}
	if r.err != api.OK {
		return none, r.err
	}
	return x, api.OK
}

// fail drops the words that are left: whoever goes on reading meets the end, and comes back soon.
func (w *words) fail(e api.Errno) {
	if w.err == api.OK {
		w.err = e
	}
	w.left = nil
}

func (w *words) ended() bool {
	return len(w.left) == 0
}

// at is the word that is so many behind the next one; behind the last one: none, of no kind.
func (w *words) at(n int) scan.Token {
	if n >= len(w.left) {
		return scan.Token{}
	}
	return w.left[n]
}

// step reads the next word, whatever it is.
func (w *words) step() scan.Token {
	t := w.at(0)
	w.left = w.left[min(1, len(w.left)):]
	w.end = t.At + len(t.Text)
	return t
}

// need reads a word of that kind; it is an error if none is next.
func (w *words) need(kind int) string {
	if w.at(0).Kind != kind {
		w.fail(api.ErrForm)
		return ""
	}
	return w.step().Text
}

// take reads that sign, if it is the next word.
func (w *words) take(sign string) bool {
	if !isSign(w.at(0), sign) {
		return false
	}
	w.step()
	return true
}

func isSign(t scan.Token, sign string) bool {
	return t.Kind == scan.Sign && t.Text == sign
}
