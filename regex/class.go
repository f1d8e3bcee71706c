package regex

import (
	"cmp"
	"slices"
	"sort"
	"unicode"
)

// span is the characters from low to high, both of them among these.
type span struct{ low, high rune }

// every is the class of all characters.
func every() []span { return []span{{0, unicode.MaxRune}} }

// only is the class of one character.
func only(char rune) []span { return []span{{char, char}} }

// digits is the class that \d stands for.
func digits() []span { return []span{{'0', '9'}} }

// words is the class that \w stands for.
func words() []span { return []span{{'0', '9'}, {'A', 'Z'}, {'_', '_'}, {'a', 'z'}} }

// blanks is the class that \s stands for.
func blanks() []span { return []span{{'\t', '\n'}, {'\f', '\r'}, {' ', ' '}} }

// tidy is the class of the same characters, its spans rising and apart from each other, so that it can be searched.
func tidy(class []span) []span {
	slices.SortFunc(class, func(a, b span) int { return cmp.Compare(a.low, b.low) })
	var out []span
	for _, s := range class {
		if n := len(out); n > 0 && s.low <= out[n-1].high {
			out[n-1].high = max(out[n-1].high, s.high)
		} else {
			out = append(out, s)
		}
	}
	return out
}

// others is the class of all characters that a tidy class has not.
func others(class []span) []span {
	var out []span
	free := rune(0)
	for _, s := range class {
		if s.low > free {
			out = append(out, span{free, s.low - 1})
		}
		free = s.high + 1
	}
	if free <= unicode.MaxRune {
		out = append(out, span{free, unicode.MaxRune})
	}
	return out
}

// has tells whether a tidy class has the character.
func has(class []span, char rune) bool {
	i := sort.Search(len(class), func(i int) bool { return class[i].high >= char })
	return i < len(class) && class[i].low <= char
}

// lettered is the class that a backslash and the letter stand for.
func lettered(letter byte) ([]span, bool) {
	switch letter {
	case 'd':
		return digits(), true
	case 'w':
		return words(), true
	case 's':
		return blanks(), true
	case 'D':
		return others(digits()), true
	case 'W':
		return others(words()), true
	case 'S':
		return others(blanks()), true
	}
	return nil, false
}

// escaped is the character that a backslash and the byte stand for.
func escaped(c byte) (rune, bool) {
	switch c {
	case 'n':
		return '\n', true
	case 't':
		return '\t', true
	case 'r':
		return '\r', true
	case '-', '/', '"', '\'', ' ':
		return rune(c), true
	}
	return rune(c), special(c)
}

// special tells whether the byte, outside of a class, does not stand for itself.
func special(c byte) bool {
	switch c {
	case '\\', '.', '+', '*', '?', '(', ')', '|', '[', ']', '{', '}', '^', '$':
		return true
	}
	return false
}
