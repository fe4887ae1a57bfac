// Package text is layer 1: texts by lines and columns. See shared/doc/01-text.md.
package text

import (
	"iter"
	"slices"
	"strings"
	"sync"
	"sync/atomic"

	"namesake/api"
)

// Lines is each line's beginning, and the line.
func Lines(s string) iter.Seq2[int, string] {
	return func(yield func(int, string) bool) {
		from := 0
		for {
			n := strings.IndexByte(s[from:], '\n')
			if n < 0 {
				// What stands behind the last line feed is a line even if it is empty.
				yield(from, s[from:])
				return
			}
			if !yield(from, s[from:from+n]) {
				return
			}
			from += n + 1
		}
	}
}

// Table is a text's lines. It looks for them when it is first asked, not when it is made.
type Table struct {
	text   string
	begins []int
	once   sync.Once
	made   atomic.Int64
}

// New is a table of a text.
func New(s string) *Table { return &Table{text: s} }

// Len is how many lines there are.
func (t *Table) Len() int {
	if t == nil {
		return 0
	}
	t.look()
	return len(t.begins)
}

// Place is a place's line and column.
func (t *Table) Place(at int) (line, column int, err error) {
	if t == nil {
		return 0, 0, api.ErrRange
	}
	// A place that is refused is a question too, and Made tells of it.
	t.look()
	if at < 0 || at > len(t.text) {
		return 0, 0, api.ErrRange
	}
	line, begins := slices.BinarySearch(t.begins, at)
	if !begins {
		line--
	}
	return line, at - t.begins[line], nil
}

// At is the place of a line and column.
func (t *Table) At(line, column int) (int, error) {
	from, to, err := t.span(line)
	if err != nil {
		return 0, err
	}
	// Nothing is added to the column ahead of this: it may be so great that the sum wraps around.
	if column < 0 || column > to-from {
		return 0, api.ErrRange
	}
	return from + column, nil
}

// Line is a line.
func (t *Table) Line(n int) (string, error) {
	from, to, err := t.span(n)
	if err != nil {
		return "", err
	}
	return t.text[from:to], nil
}

// Made is how often the text was looked through.
func (t *Table) Made() int {
	if t == nil {
		return 0
	}
	return int(t.made.Load())
}

// look finds the lines, unless they were found by an earlier question.
func (t *Table) look() {
	t.once.Do(func() {
		for from := range Lines(t.text) {
			t.begins = append(t.begins, from)
		}
		t.made.Add(1)
	})
}

// span is where a line begins and ends.
func (t *Table) span(line int) (from, to int, err error) {
	if t == nil {
		return 0, 0, api.ErrRange
	}
	t.look()
	if line < 0 || line >= len(t.begins) {
		return 0, 0, api.ErrRange
	}
	if line == len(t.begins)-1 {
		return t.begins[line], len(t.text), nil
	}
	// The line feed ahead of the next line belongs to neither.
	return t.begins[line], t.begins[line+1] - 1, nil
}
