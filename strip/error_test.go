package strip_test

import "groutwork/api"

// invalidSets returns a set for each way of not being valid.
func invalidSets() map[string][]api.Tile {
	return map[string][]api.Tile{
		"negative north": {{N: -1}},
		"negative east":  {{E: -1}},
		"negative south": {{S: -1}},
		"negative west":  {{W: -1}},
		"negative loop":  {{N: -1, E: -1, S: -1, W: -1}},
		"great north":    {{N: api.MaxColours}},
		"great east":     {{E: api.MaxColours}},
		"great south":    {{S: api.MaxColours}},
		"great west":     {{}, {W: api.MaxColours}},
		"great loop":     {{N: api.MaxColours, E: api.MaxColours, S: api.MaxColours, W: api.MaxColours}},
		"greatest int":   {{}, {N: greatest}},
		"least int":      {{}, {W: least}},
		"equal tiles":    {{N: 1}, {}, {N: 1}},
		"too many tiles": append(longRow(api.MaxTiles), api.Tile{N: 9}),
	}
}
