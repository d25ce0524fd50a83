package piece

import (
	"strconv"
	"strings"
)

// Text tells a piece whole: `name:node.number ` for each entry, `|`, and
// ` node.number` for each known token.
func (p Piece) Text() string {
	var text strings.Builder
	for _, entry := range p.Entries() {
		text.WriteString(entry.Name + ":" + entry.Token.text() + " ")
	}
	text.WriteString("|")
	for _, token := range p.Known() {
		text.WriteString(" " + token.text())
	}
	return text.String()
}

func (t Token) text() string {
	return strconv.Itoa(t.Node) + "." + strconv.Itoa(t.Number)
}
