package run

import (
	"strings"

	"leporello/api"
	"leporello/guard"
	"leporello/row"
)

// Texts that no row begins with: it has not so many labels.
const (
	headMark = "LEP"
	endMark  = "END"
)

// countBytes is how many bytes tell how many rows there are.
const countBytes = 2

// block is what a frame holds: a value of one of the types below.
type block any

type (
	head int       // how many rows there are
	some []api.Row // these rows, at most Block
	end  struct{}
)

// blockOf tells the block that a text is; nil, if it is none.
func blockOf(text string) block {
	if text == endMark {
		return end{}
	}
	if count, ok := strings.CutPrefix(text, headMark); ok && len(count) == countBytes {
		return head(int(count[0])<<8 | int(count[1]))
	}
	if l, ok := rowsOf(text); ok {
		return some(l)
	}
	return nil
}

// rowsOf tells the rows that stand in a text one behind the other; false, if
// there is something else, or more than Block.
func rowsOf(text string) ([]api.Row, bool) {
	var l []api.Row
	for text != "" {
		r, behind, e := row.Get(text)
		if e != api.OK || len(l) == Block {
			return nil, false
		}
		l = append(l, r)
		text = behind
	}
	return l, true
}

// headText tells the text of a head.
func headText(n int) string { return headMark + string([]byte{byte(n >> 8), byte(n)}) }

// rowsText tells the text of a block of rows.
func rowsText(l []api.Row) (string, api.Errno) {
	var b strings.Builder
	for _, r := range l {
		text, e := row.Put(r)
		if e != api.OK {
			return "", e
		}
		b.WriteString(text)
	}
	return b.String(), api.OK
}

// frame tells the frame of a block's text.
func frame(text string) string {
	// There is no error: a frame has room for Block rows of the most bytes.
	b, _ := guard.Frame(text)
	return b
}
