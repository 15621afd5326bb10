package tile_test

import (
	"slices"
	"strings"
	"testing"

	"groutwork/api"
	"groutwork/tile"
)

func TestText(t *testing.T) {
	for _, c := range []struct {
		set  []api.Tile
		want string
	}{
		{nil, ""},
		{[]api.Tile{}, ""},
		{[]api.Tile{{}}, "0.0.0.0"},
		{[]api.Tile{{N: 1, E: 2, S: 3, W: 4}}, "1.2.3.4"},
		{[]api.Tile{{N: 999, E: 10, S: 100, W: 0}, {N: 7}}, "999.10.100.0 7.0.0.0"},
		{[]api.Tile{{N: 0, E: 1, S: 1, W: 0}, {N: 1, E: 0, S: 0, W: 1}}, chess},
	} {
		if s, e := tile.Text(c.set); e != api.OK || s != c.want {
			t.Errorf("Text of %v: %q, error %d", c.set, s, e)
		}
		if set, e := tile.Parse(c.want); e != api.OK || !slices.Equal(set, c.set) {
			t.Errorf("Parse of %q: %v, error %d", c.want, set, e)
		}
	}
}

func TestTextRefuses(t *testing.T) {
	for name, set := range invalidSets() {
		if s, e := tile.Text(set); e != api.ErrForm || s != "" {
			t.Errorf("%s: %q, error %d", name, s, e)
		}
	}
}

func TestParseRefuses(t *testing.T) {
	texts := []string{
		" ", "  ", ".", "...", "0", "0.0.0", "0.0.0.", ".0.0.0", "0..0.0", "0.0.0.0.", "0.0.0.0.0", "0.1.2.3.4.5.6.7",
		" 0.0.0.0", "0.0.0.0 ", "0.0.0.0  1.0.0.0", "0.0.0.0\t1.0.0.0", "0.0.0.0\n", "\n", "0.0.0.0\n1.0.0.0", "0.0.0.0,1.0.0.0", "0,0,0,0",
		"0.0. 0.0", "0.0.0.0 1", "1 0.0.0.0", "0 0 0 0", "0.0.0.0 1.0.0",
		"0.0.0.0 0.0.0.0", "0.0.0.0 1.0.0.0 0.0.0.0",
		"\x000.0.0.0", "0.0.0.0\x00", "\xff.0.0.0", "0.0.0.0\u00a01.0.0.0",
		"0.0.0." + strings.Repeat("0", 100000), "0.0.0." + strings.Repeat("9", 100000),
		strings.Repeat(".", 100000), strings.Repeat(" ", 100000), strings.Repeat("0.0.0.0 ", 2000),
	}
	for _, colour := range []string{"00", "01", "007", "0000", "1000", "1001", "9999", "10000", "-0", "-1", "+0", "+1", "1_0", "0x1", "0b1", "1e2", "a", "/", ":", "٣", "１", "9223372036854775807", "9223372036854775808", "18446744073709551616", "-9223372036854775808", "18446744073709551617"} {
		for i := range 4 {
			colours := []string{"0", "0", "0", "0"}
			colours[i] = colour
			texts = append(texts, strings.Join(colours, "."), "1.2.3.4 "+strings.Join(colours, "."))
		}
	}
	for _, s := range texts {
		if set, e := tile.Parse(s); e != api.ErrParse || len(set) != 0 {
			t.Errorf("Parse(%.40q): %v, error %d", s, set, e)
		}
	}
}

// P1.4 (and P8): what is written is read back.
func TestParseOfText(t *testing.T) {
	sets := append(smallSets(), manyTiles(api.MaxTiles), manyTiles(api.MaxTiles-1), []api.Tile{{N: 999, E: 999, S: 999, W: 999}})
	for _, set := range sets {
		s, e := tile.Text(set)
		if e != api.OK {
			t.Fatalf("%v: error %d", set, e)
		}
		if got, e := tile.Parse(s); e != api.OK || !slices.Equal(got, set) {
			t.Fatalf("Parse of %q: %v, error %d", s, got, e)
		}
	}
}

func TestParseOfTooManyTiles(t *testing.T) {
	s, e := tile.Text(manyTiles(api.MaxTiles))
	if e != api.OK {
		t.Fatal(e)
	}
	if _, e := tile.Parse(s); e != api.OK {
		t.Errorf("MaxTiles tiles: error %d", e)
	}
	for _, more := range []string{" 5.5.5.5", " 5.5.5.5 6.6.6.6", " ", " x"} {
		if set, e := tile.Parse(s + more); e != api.ErrParse || len(set) != 0 {
			t.Errorf("MaxTiles tiles and %q: %d tiles, error %d", more, len(set), e)
		}
	}
}

// P1.4 (and P8): what is accepted is the text of what is returned. The texts are those of a few letters, and those one letter away from a text.
func TestTextOfParse(t *testing.T) {
	const letters = "019.- +"
	texts := []string{""}
	for i := 0; len(texts[i]) < 3; i++ {
		for _, c := range letters {
			texts = append(texts, texts[i]+string(c))
		}
	}
	for _, s := range texts[:len(texts):len(texts)] {
		texts = append(texts, "0.1.1."+s, s+".1.1.0", "0.1.1.0"+s+"1.0.0.1", "0."+s+".0")
	}
	accepted := 0
	for _, s := range texts {
		set, e := tile.Parse(s)
		if e != api.OK {
			if e != api.ErrParse || len(set) != 0 {
				t.Errorf("Parse(%q): %v, error %d", s, set, e)
			}
			continue
		}
		accepted++
		if back, e := tile.Text(set); e != api.OK || back != s {
			t.Errorf("Parse accepts %q, the text of which is %q (error %d)", s, back, e)
		}
	}
	if accepted < 10 {
		t.Errorf("only %d texts are accepted", accepted)
	}
}

func FuzzParse(f *testing.F) {
	for _, s := range []string{"", chess, "0.1.0.1", "999.0.10.100", "01.0.0.0", "0.0.0.0 0.0.0.0", "0.0.0.0 "} {
		f.Add(s)
	}
	f.Fuzz(func(t *testing.T, s string) {
		set, e := tile.Parse(s)
		if e != api.OK {
			if e != api.ErrParse || len(set) != 0 {
				t.Errorf("Parse(%q): %v, error %d", s, set, e)
			}
			return
		}
		if back, e := tile.Text(set); e != api.OK || back != s {
			t.Errorf("Parse accepts %q, the text of which is %q (error %d)", s, back, e)
		}
	})
}
