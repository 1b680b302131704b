package baum

import (
	"slices"
	"strings"

	"sandreckoner/api"
	"sandreckoner/num"
)

// letters are those of words.
const letters = "aAbB"

// isWord reports whether a text is a word.
func isWord(text string) bool {
	return len(text) <= api.MaxWord && strings.Trim(text, letters) == ""
}

// inverse returns the inverse of a word.
func inverse(word string) string {
	turned := []byte(word)
	slices.Reverse(turned)
	for i := range turned {
		turned[i] ^= 'a' ^ 'A'
	}
	return string(turned)
}

// read returns the product of the letters of a word.
func (c calculator) read(word string) product {
	p := product{inner: []E{{}}}
	for i := range len(word) {
		last := len(p.inner) - 1
		switch word[i] {
		case 'a':
			p.inner[last] = c.mul(p.inner[last], E{U: num.Of(1)})
		case 'A':
			p.inner[last] = c.mul(p.inner[last], E{U: num.Of(-1)})
		default:
			p.outer = append(p.outer, word[i])
			p.inner = append(p.inner, E{})
		}
	}
	return p
}
