package slots

import (
	"slices"
	"strings"

	"bandolier/api"
	"bandolier/heads"
)

// pages is what lies in a slot, sector by sector. A sector that is no Page
// stands there as the zero one, whose Seq and Total no Page has.
type pages [perSlot]heads.Page

// pagesOf answers what lies in a slot of these bytes.
func pagesOf(s string) pages {
	var p pages
	for i := range p {
		p[i], _ = heads.ToPage(s[i*api.Sector:][:api.Sector])
	}
	return p
}

// split answers the Pages of a text: all but the last one are full.
func split(text string, seq uint64) pages {
	var p pages
	total := max(1, (len(text)+mostData-1)/mostData)
	for i := range total {
		n := min(len(text), mostData)
		p[i] = heads.Page{Seq: seq, Index: i, Total: total, Data: text[:n]}
		text = text[n:]
	}
	return p
}

// sectors answers the bytes of as many Pages as the first one says.
func (p pages) sectors() string {
	var all strings.Builder
	for _, x := range p[:p[0].Total] {
		all.WriteString(x.Pack())
	}
	return all.String()
}

// most answers the greatest Seq of all; 0, if none is a Page.
func (p pages) most() uint64 {
	var seq uint64
	for _, x := range p {
		seq = max(seq, x.Seq)
	}
	return seq
}

// text answers the text that lies there, if the slot is whole: if its first
// Pages are just those into which that text would be split.
func (p pages) text() (string, bool) {
	first := p[:p[0].Total]
	var all strings.Builder
	for _, x := range first {
		all.WriteString(x.Data)
	}
	text := all.String()
	want := split(text, p[0].Seq)
	if len(first) == 0 || !slices.Equal(first, want[:len(first)]) {
		return "", false
	}
	return text, true
}
