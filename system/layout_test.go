package system

import (
	"slices"
	"testing"

	"tesseract/api"
)

// The order, the form and the codec of a layout have no influence on answers, so they are looked at where they are read.
func TestLayoutThatIsRead(t *testing.T) {
	for _, x := range []struct {
		line string
		want api.Layout
	}{
		{"layout t 2,3 1,0 rowmajor dense plain", api.Layout{Order: api.RowMajor, Form: api.Dense, Codec: api.Plain}},
		{"layout t 2,3 1,0 hilbert runs rle", api.Layout{Order: api.Hilbert, Form: api.Runs, Codec: api.Rle}},
		{"layout t 2,3 1,0 tiled12 coords lz", api.Layout{Order: api.Tiled, Tile: 12, Form: api.Coords, Codec: api.Lz}},
	} {
		s := New()
		for _, line := range []string{"create t; x 0:3, y 0:1; v int", x.line} {
			if _, e := s.Do(line); e != api.OK {
				t.Fatal(line, e)
			}
		}
		x.want.Sides, x.want.Overlap = []int{2, 3}, []int{1, 0}
		checkLayout(t, s.arrays[0].layout, x.want)
	}
	s := New()
	s.Do("create t; x 0:3, y 0:1, z -1:*; v int")
	checkLayout(t, s.arrays[0].layout, api.Layout{Sides: []int{8, 8, 8}, Overlap: []int{0, 0, 0}, Order: api.RowMajor, Form: api.Dense, Codec: api.Plain})
}

func checkLayout(t *testing.T, l, want api.Layout) {
	t.Helper()
	if !slices.Equal(l.Sides, want.Sides) || !slices.Equal(l.Overlap, want.Overlap) || l.Order != want.Order || l.Tile != want.Tile || l.Form != want.Form || l.Codec != want.Codec {
		t.Errorf("%v, not %v", l, want)
	}
}
