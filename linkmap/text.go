package linkmap

import (
	"strconv"
	"strings"

	"sindri/api"
)

// The words that lines begin with.
const (
	placeWord = "place"
	symWord   = "sym"
)

// How numbers are written.
const (
	decimal     = 10
	hexadecimal = 16
)

// The most digits of a number that is read.
const (
	ofPlace = 9
	ofAddr  = 16
)

// Text tells a map's text.
func Text(m api.Map) []byte {
	var b []byte
	for _, p := range m.Places {
		b = putLine(b, placeWord, strconv.Itoa(p.Obj), strconv.Itoa(p.Sect), strconv.FormatUint(p.Addr, hexadecimal))
	}
	for _, n := range m.Syms {
		b = putLine(b, symWord, n.Name, strconv.FormatUint(n.Addr, hexadecimal))
	}
	return b
}

// putLine puts a line of these words.
func putLine(b []byte, words ...string) []byte {
	b = append(b, strings.Join(words, " ")...)
	return append(b, '\n')
}

// Read reads a map's text.
func Read(b []byte) (api.Map, api.Errno) {
	if len(b) > api.MaxBytes {
		return api.Map{}, api.ErrBig
	}
	var m api.Map
	for line := range strings.Lines(string(b)) {
		text, ended := strings.CutSuffix(line, "\n")
		if !ended || !readLine(&m, strings.Split(text, " ")) {
			return api.Map{}, api.ErrMap
		}
	}
	if tooMany(m) {
		return api.Map{}, api.ErrMap
	}
	return m, api.OK
}

// readLine puts what a line's words say into the map, if they may be.
func readLine(m *api.Map, words []string) bool {
	switch {
	case len(words) == 4 && words[0] == placeWord:
		obj, a := readNumber(words[1], decimal, ofPlace)
		sect, b := readNumber(words[2], decimal, ofPlace)
		addr, c := readNumber(words[3], hexadecimal, ofAddr)
		m.Places = append(m.Places, api.Place{Obj: int(obj), Sect: int(sect), Addr: addr})
		return a && b && c
	case len(words) == 3 && words[0] == symWord:
		addr, ok := readNumber(words[2], hexadecimal, ofAddr)
		// A part of the text would keep all of it.
		m.Syms = append(m.Syms, api.Named{Name: strings.Clone(words[1]), Addr: addr})
		return ok && right(words[1])
	}
	return false
}

// readNumber reads a number of so many digits at most. There is one way alone to
// write it, though others can be read.
func readNumber(word string, base, most int) (uint64, bool) {
	n, err := strconv.ParseUint(word, base, 64)
	return n, err == nil && len(word) <= most && strconv.FormatUint(n, base) == word
}
