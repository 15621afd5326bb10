package tile

import (
	"strconv"
	"strings"

	"groutwork/api"
)

// Text returns the text of a set.
func Text(set []api.Tile) (string, api.Errno) {
	if !Valid(set) {
		return "", api.ErrForm
	}
	words := make([]string, len(set))
	for i, t := range set {
		words[i] = tileText(t)
	}
	return strings.Join(words, " "), api.OK
}

func tileText(t api.Tile) string {
	colours := []string{strconv.Itoa(t.N), strconv.Itoa(t.E), strconv.Itoa(t.S), strconv.Itoa(t.W)}
	return strings.Join(colours, ".")
}

// Parse returns the set of a text.
func Parse(s string) ([]api.Tile, api.Errno) {
	if s == "" {
		return nil, api.OK
	}
	// With one word more than MaxTiles, the set is not valid, whatever follows.
	words := strings.SplitN(s, " ", api.MaxTiles+1)
	set := make([]api.Tile, 0, len(words))
	for _, word := range words {
		t, ok := parseTile(word)
		if !ok {
			return nil, api.ErrParse
		}
		set = append(set, t)
	}
	if !Valid(set) {
		return nil, api.ErrParse
	}
	return set, api.OK
}

func parseTile(word string) (api.Tile, bool) {
	const sides = 4
	parts := strings.SplitN(word, ".", sides+1)
	if len(parts) != sides {
		return api.Tile{}, false
	}
	var colours [sides]int
	for i, part := range parts {
		c, ok := parseColour(part)
		if !ok {
			return api.Tile{}, false
		}
		colours[i] = c
	}
	return api.Tile{N: colours[0], E: colours[1], S: colours[2], W: colours[3]}, true
}

// parseColour reads a number. It is written again, as a colour has a single text: Atoi alone accepts signs, and zeros in front.
func parseColour(s string) (int, bool) {
	c, err := strconv.Atoi(s)
	if err != nil || strconv.Itoa(c) != s {
		return 0, false
	}
	return c, true
}
