package higman

import (
	"slices"
	"strings"

	"sandreckoner/api"
)

// letters are those of words; toInverse is what makes a letter its inverse.
const (
	letters   = "abcdABCD"
	toInverse = 'a' ^ 'A'
)

// isWord reports whether a text is a word.
func isWord(text string) bool {
	return len(text) <= api.MaxWord && strings.Trim(text, letters) == ""
}

// inverse returns the inverse of a word.
func inverse(word string) string {
	turned := []byte(word)
	slices.Reverse(turned)
	for i := range turned {
		turned[i] ^= toInverse
	}
	return string(turned)
}
