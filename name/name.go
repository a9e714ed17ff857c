// Package name tells domain names from other bytes, and turns them into texts and back: see DOC.md, chapter 1.
package name

import (
	"wimple/api"
)

const (
	root     = "\x00"
	rootText = "."

	// labelBits is the room of a label's length: MaxLabel is the greatest number that so many bits hold.
	labelBits = 6

	// maxText bounds the work on a text: no byte of a name takes more than four of them.
	maxText = 4 * api.MaxName
)

// May says whether n is a name.
func May(n string) bool {
	_, ok := measure(n)
	return ok
}

// Count gives the number of n's labels, 0 if it is no name.
func Count(n string) int {
	count, _ := measure(n)
	return count
}

// Text gives the text of the name n.
func Text(n string) (string, api.Errno) {
	if !May(n) {
		return "", api.ErrNameForm
	}
	if n == root {
		return rootText, api.OK
	}
	out := make([]byte, 0, maxText)
	for at := 0; n[at] != 0; {
		end := at + 1 + int(n[at])
		for _, c := range []byte(n[at+1 : end]) {
			out = appendByte(out, c)
		}
		out = append(out, '.')
		at = end
	}
	return string(out), api.OK
}

// Parse gives the name whose text s is.
func Parse(s string) (string, api.Errno) {
	if s == rootText {
		return root, api.OK
	}
	if s == "" || len(s) > maxText {
		return "", api.ErrNameForm
	}
	out := make([]byte, 0, api.MaxName)
	at := 0
labels:
	for at < len(s) {
		place := len(out)
		out = append(out, 0)
		for at < len(s) {
			if s[at] == '.' {
				size := len(out) - place - 1
				if !maySize(size) {
					return "", api.ErrNameForm
				}
				out[place] = byte(size)
				at++
				continue labels
			}
			c, width := readByte(s[at:])
			if width == 0 {
				return "", api.ErrNameForm
			}
			out = append(out, c)
			at += width
		}
		// The text has come to its end ahead of the label's dot.
		return "", api.ErrNameForm
	}
	out = append(out, 0)
	if len(out) > api.MaxName {
		return "", api.ErrNameForm
	}
	return string(out), api.OK
}

// measure counts the labels of n, if it is a name.
func measure(n string) (int, bool) {
	if len(n) > api.MaxName {
		return 0, false
	}
	count, at := 0, 0
labels:
	for at < len(n) {
		size := int(n[at])
		switch {
		case size == 0:
			break labels
		case !maySize(size):
			return 0, false
		}
		at += 1 + size
		count++
	}
	// A label that is cut leads past the last byte, and bytes behind the end leave the walk ahead of it.
	if at != len(n)-1 {
		return 0, false
	}
	return count, true
}

// maySize says whether a label may have so many bytes.
func maySize(size int) bool {
	return size != 0 && size>>labelBits == 0
}

// stands says whether c is its own text within a label.
func stands(c byte) bool {
	return c >= 33 && c <= 126 && c != '.' && c != '\\'
}

// appendByte lays the text of a label's byte behind out.
func appendByte(out []byte, c byte) []byte {
	if stands(c) {
		return append(out, c)
	}
	return append(out, '\\', '0'+c/100, '0'+c/10%10, '0'+c%10)
}

// readByte gives the byte with whose text s, which is not empty, begins, and that text's width: 0, if there is none.
func readByte(s string) (byte, int) {
	if stands(s[0]) {
		return s[0], 1
	}
	if s[0] != '\\' || len(s) < 4 {
		return 0, 0
	}
	value := 0
	for _, digit := range []byte(s[1:4]) {
		if digit < '0' || digit > '9' {
			return 0, 0
		}
		value = value*10 + int(digit-'0')
	}
	// Digits that tell a byte which stands as it is are no text of Text's.
	if value > 255 || stands(byte(value)) {
		return 0, 0
	}
	return byte(value), 4
}
