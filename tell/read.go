package tell

import (
	"strconv"

	"lintel/tree"
	"lintel/ward"
)

const (
	maxDigits = 9
	looks     = -1 // no Op of a ward's: check
)

// The ops of a ward.
const (
	does = iota
	crash
	on
	fuse
	spoil
	mend
)

// play is a line.
type play struct{ ward.Act }

// read reads a line.
func read(words []string) (play, bool) {
	if kind, form := thing(words[0]); kind != 0 {
		return readThing(kind, form, words[1:])
	}
	op, least, most := happening(words[0])
	l, ok := numbers(words[1:])
	if !ok || len(l) < least || most >= 0 && len(l) > most {
		return play{}, false
	}
	a := ward.Act{Op: op}
	switch op {
	case crash:
		a.Keep = l
	case fuse:
		a.At, a.Keep = l[0], l[1:]
	case spoil:
		a.At, a.V = l[0], uint64(l[1])
	}
	return play{a}, true
}

// thing tells the kind of a thing to do with files, and what its words are, by letters:
// a and b ways, d bytes, t a place, n a number. Kind 0: it is none.
func thing(word string) (kind int, form string) {
	switch word {
	case "mkdir":
		return 1, "a"
	case "create":
		return 2, "a"
	case "link":
		return 3, "ab"
	case "unlink":
		return 4, "a"
	case "rmdir":
		return 5, "a"
	case "rename":
		return 6, "ab"
	case "symlink":
		return 7, "da"
	case "readlink":
		return 8, "a"
	case "read":
		return 9, "atn"
	case "write":
		return 10, "atd"
	case "trunc":
		return 11, "an"
	case "stat":
		return 12, "a"
	case "list":
		return 13, "a"
	}
	return 0, ""
}

// readThing reads a thing to do with files.
func readThing(kind int, form string, words []string) (play, bool) {
	if len(words) != len(form) {
		return play{}, false
	}
	o := tree.Op{Kind: kind}
	for i, word := range words {
		ok := true
		switch form[i] {
		case 'a':
			o.A = word
		case 'b':
			o.B = word
		case 'd':
			o.Data = []byte(word)
		case 't':
			o.At, ok = number(word)
		case 'n':
			o.N, ok = number(word)
		}
		if !ok {
			return play{}, false
		}
	}
	return play{ward.Act{Op: does, O: o}}, true
}

// happening tells the op of another line, and how many numbers it has at least and at most (below 0: any);
// of a word that is none it is more at least than at most, so that no line fits.
func happening(word string) (op, least, most int) {
	switch word {
	case "crash":
		return crash, 0, -1
	case "on":
		return on, 0, 0
	case "fuse":
		return fuse, 1, -1
	case "spoil":
		return spoil, 2, 2
	case "mend":
		return mend, 0, 0
	case "check":
		return looks, 0, 0
	}
	return looks, 1, 0
}

// numbers reads words that are all numbers.
func numbers(words []string) ([]int, bool) {
	l := make([]int, len(words))
	for i, word := range words {
		n, ok := number(word)
		if !ok {
			return nil, false
		}
		l[i] = n
	}
	return l, true
}

// number reads a number.
func number(word string) (int, bool) {
	if word == "" || len(word) > maxDigits {
		return 0, false
	}
	for _, r := range word {
		if r < '0' || r > '9' {
			return 0, false
		}
	}
	n, err := strconv.Atoi(word)
	return n, err == nil
}
