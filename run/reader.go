package run

import (
	"leporello/api"
	"leporello/guard"
)

// reach is how many bytes a frame has at most, with its length and its sums.
const reach = 12_010

// reader reads blocks of a file from its beginning on.
type reader struct{ left string }

// text tells what the next frame holds; false, if that frame is not right.
func (r *reader) text() (string, bool) {
	// No more than a frame may have, because what stands behind is copied.
	b := r.left[:min(reach, len(r.left))]
	text, behind, e := guard.Take(b)
	if e != api.OK {
		return "", false
	}
	r.left = r.left[len(b)-len(behind):]
	return text, true
}

// block tells the next block; nil, if it is none.
func (r *reader) block() block {
	text, ok := r.text()
	if !ok {
		return nil
	}
	return blockOf(text)
}

// head tells how many rows the next block says that there are; false, if it
// says nothing of that, or too many.
func (r *reader) head() (int, bool) {
	n, ok := r.block().(head)
	if !ok || n > api.MaxRows {
		return 0, false
	}
	return int(n), true
}

// skip leaves out n frames, whatever they hold; false, if one is not right.
func (r *reader) skip(n int) bool {
	for range n {
		if _, ok := r.text(); !ok {
			return false
		}
	}
	return true
}

// rows tells n rows of the next blocks: Block of each, of the last one what is
// left; false, if one does not have just these.
func (r *reader) rows(n int) ([]api.Row, bool) {
	var all []api.Row
	for len(all) < n {
		l, ok := r.block().(some)
		if !ok || len(l) != min(Block, n-len(all)) {
			return nil, false
		}
		all = append(all, l...)
	}
	return all, true
}

// end tells whether just the block of the end is left.
func (r *reader) end() bool {
	_, ok := r.block().(end)
	return ok && r.left == ""
}
