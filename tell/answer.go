package tell

import (
	"strconv"
	"strings"

	"lintel/api"
	"lintel/check"
	"lintel/tree"
	"lintel/ward"
)

// nothing stands for an answer without anything in it.
const nothing = "-"

// answer lets a line happen, and tells its answer.
func (p play) answer(w *ward.Ward) string {
	if p.Op == looks {
		return findings(w.Findings())
	}
	if err := w.Do(p.Act); err != api.OK {
		return "E" + strconv.Itoa(int(err))
	}
	if p.Op == does {
		return told(p.O.Kind, w.Last())
	}
	return "ok"
}

// told writes a result that is no error.
func told(kind int, r tree.Result) string {
	switch kind {
	case 8, 9:
		return hex(r.Data)
	case 10, 11:
		return "ok " + strconv.Itoa(r.Size)
	case 12:
		return some([]string{strconv.Itoa(r.Node), strconv.Itoa(r.Type), strconv.Itoa(r.Links), strconv.Itoa(r.Size)})
	case 13:
		return some(r.Names)
	}
	return "ok " + strconv.Itoa(r.Node)
}

// some writes words with blanks between.
func some(l []string) string {
	if len(l) == 0 {
		return nothing
	}
	return strings.Join(l, " ")
}

// hex writes bytes, two digits each.
func hex(data []byte) string {
	if len(data) == 0 {
		return nothing
	}
	const digits = "0123456789abcdef"
	var b strings.Builder
	for _, x := range data {
		b.WriteByte(digits[x>>4])
		b.WriteByte(digits[x&15])
	}
	return b.String()
}

// findings writes what the checker found.
func findings(l []check.Finding) string {
	if len(l) == 0 {
		return "fine"
	}
	var shown []string
	for _, f := range l {
		shown = append(shown, check.Show(f))
	}
	return strings.Join(shown, ";")
}
