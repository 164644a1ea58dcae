package impl

import "strings"

const MaxDoc = 300
const MaxDeep = 12

const (
	kindNone  = 0
	kindPlain = 1
	kindBegin = 2
	kindEnd   = 3
)

// The table stops behind `z`: all bytes from there on are none of a text's.
var byteKinds = [123]uint8{
	' ': kindPlain, ',': kindPlain, '.': kindPlain, '/': kindEnd,
	'0': kindPlain, '1': kindPlain, '2': kindPlain, '3': kindPlain, '4': kindPlain,
	'5': kindPlain, '6': kindPlain, '7': kindPlain, '8': kindPlain, '9': kindPlain,
	'A': kindBegin, 'B': kindBegin, 'C': kindBegin,
	'D': kindBegin, 'E': kindBegin, 'F': kindBegin,
	'a': kindPlain, 'b': kindPlain, 'c': kindPlain, 'd': kindPlain, 'e': kindPlain,
	'f': kindPlain, 'g': kindPlain, 'h': kindPlain, 'i': kindPlain, 'j': kindPlain,
	'k': kindPlain, 'l': kindPlain, 'm': kindPlain, 'n': kindPlain, 'o': kindPlain,
	'p': kindPlain, 'q': kindPlain, 'r': kindPlain, 's': kindPlain, 't': kindPlain,
	'u': kindPlain, 'v': kindPlain, 'w': kindPlain, 'x': kindPlain, 'y': kindPlain,
	'z': kindPlain,
}

func kindOf(c byte) uint8 {
	if int(c) >= len(byteKinds) {
		return kindNone
	}
	return byteKinds[c]
}

// depthsOf answers the depth of every place at once, so that what is asked of
// one place and what is asked of a whole document cannot tell different things.
func depthsOf(s string) ([]int, bool) {
	var depths []int
	at, depth := 0, 0
	if !GoodText(s) {
		return nil, false
	}
read:
	depths = append(depths, depth)
	if at == len(s) {
		goto whole
	}
	at++
	switch kindOf(s[at-1]) {
	case kindBegin:
		goto begin
	case kindEnd:
		goto end
	}
	goto read
begin:
	depth++
	if depth > MaxDeep {
		return nil, false
	}
	goto read
end:
	depth--
	if depth < 0 {
		return nil, false
	}
	goto read
whole:
	if depth != 0 {
		return nil, false
	}
	return depths, true
}

// endOf relies on an element's depth lasting until just behind its end.
func endOf(depths []int, at int) int {
	end := at + 1
	for depths[end+1] != depths[at] {
		end++
	}
	return end
}

func beginOf(depths []int, at int) int {
	begin := at - 1
	for depths[begin] != depths[at+1] {
		begin--
	}
	return begin
}

func bytesOf(s string, plain bool) string {
	var out []byte
	for i := 0; i < len(s); i++ {
		if (kindOf(s[i]) == kindPlain) == plain {
			out = append(out, s[i])
		}
	}
	return string(out)
}

func isName(name string) bool {
	return len(name) == 1 && kindOf(name[0]) == kindBegin
}

func GoodText(s string) bool {
	if len(s) > MaxDoc {
		return false
	}
	for i := 0; i < len(s); i++ {
		if kindOf(s[i]) == kindNone {
			return false
		}
	}
	return true
}

func GoodDoc(s string) bool {
	_, ok := depthsOf(s)
	return ok
}

func DepthAt(s string, at int) (int, bool) {
	depths, ok := depthsOf(s)
	if !ok || at < 0 || at > len(s) {
		return 0, false
	}
	return depths[at], true
}

func MatchOf(s string, at int) (int, bool) {
	depths, ok := depthsOf(s)
	if !ok || at < 0 || at >= len(s) {
		return 0, false
	}
	switch kindOf(s[at]) {
	case kindBegin:
		return endOf(depths, at), true
	case kindEnd:
		return beginOf(depths, at), true
	}
	return 0, false
}

func PlainOf(s string) (string, bool) {
	if !GoodText(s) {
		return "", false
	}
	return bytesOf(s, true), true
}

func OutlineOf(s string) (string, bool) {
	if !GoodText(s) {
		return "", false
	}
	return bytesOf(s, false), true
}

func CountOf(s string, name string) (int, bool) {
	if !GoodDoc(s) || !isName(name) {
		return 0, false
	}
	return strings.Count(s, name), true
}

func InnerOf(s string, at int) (string, bool) {
	end, ok := MatchOf(s, at)
	if !ok || end < at {
		return "", false
	}
	return strings.Clone(s[at+1 : end]), true
}

func SafePlace(s string, from int, to int) (bool, bool) {
	if !GoodDoc(s) || from < 0 || from > to || to > len(s) {
		return false, false
	}
	return GoodDoc(s[from:to]), true
}
