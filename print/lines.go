package print

import "strings"

// lines writes a text that consists of lines. What the lines tell has no say in how many tabs they begin with.
type lines struct {
	strings.Builder
	open int // the blocks that enclose the next line
}

// line writes a line of these parts.
func (l *lines) line(parts ...string) {
	for range l.open {
		l.WriteByte('\t')
	}
	for _, s := range parts {
		l.WriteString(s)
	}
	l.WriteByte('\n')
}

// begin writes a line that opens a block.
func (l *lines) begin(parts ...string) {
	l.line(parts...)
	l.open++
}

// end writes the line that closes a block.
func (l *lines) end() {
	l.open--
	l.line("}")
}

// turn writes a line that closes a block and opens another one.
func (l *lines) turn(parts ...string) {
	l.open--
	l.begin(parts...)
}
