// Package wire: messages as bytes, and bytes as messages.
package wire

import "trawl/api"

// A pointer's two bytes are a number of at least firstPointer: so much more than the place that it tells.
const (
	pointerSize  = 2
	pointerByte  = 192
	firstPointer = 49152
)

// behindLabels gives the place behind the labels that stand in s from a place on: what is there is no label's length. Labels that are cut off lead behind the end of s.
func behindLabels[T string | []byte](s T, at int) int {
	for at < len(s) && s[at] >= 1 && s[at] <= api.MaxLabel {
		at += 1 + int(s[at])
	}
	return at
}

func isName(s string) bool {
	last := len(s) - 1
	return len(s) <= api.MaxName && behindLabels(s, 0) == last && s[last] == 0
}

// isNameType tells whether records of a type have a name as data.
func isNameType(kind uint16) bool {
	return kind == api.TypeNS || kind == api.TypeCNAME
}

// readName reads the name that begins at a place of the message; end is the place behind those of its bytes that stand there.
func readName(message []byte, at int) (name string, end int, ok bool) {
	var labels []byte
piece:
	stop := behindLabels(message, at)
	if stop >= len(message) || len(labels)+stop-at >= api.MaxName {
		return "", 0, false
	}
	labels = append(labels, message[at:stop]...)
	target, isPointer := pointerAt(message, stop)
	// Only the first piece stands where the name began: the others do not move its end.
	if end == 0 {
		end = behindPiece(stop, isPointer)
	}
	if isPointer && target < at {
		// Each piece begins ahead of the last one, so that no name goes on for ever.
		at = target
		goto piece
	}
	if message[stop] != 0 {
		return "", 0, false
	}
	return string(append(labels, 0)), end, true
}

func behindPiece(stop int, isPointer bool) int {
	if isPointer {
		return stop + pointerSize
	}
	return stop + 1
}

func pointerAt(message []byte, at int) (target int, ok bool) {
	if len(message)-at < pointerSize || message[at] < pointerByte {
		return 0, false
	}
	return int(message[at])<<8 + int(message[at+1]) - firstPointer, true
}
