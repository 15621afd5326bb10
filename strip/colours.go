package strip

import "groutwork/api"

const wordBits = 64

// colours is a set of colours, a bit for each one. Its methods take no other numbers than colours.
type colours [(api.MaxColours + wordBits - 1) / wordBits]uint64

func (c *colours) add(colour int) { c[colour/wordBits] |= 1 << (colour % wordBits) }

func (c *colours) has(colour int) bool { return c[colour/wordBits]>>(colour%wordBits)&1 == 1 }

func isColour(c int) bool { return 0 <= c && c < api.MaxColours }
