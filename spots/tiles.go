package spots

import (
	"slices"

	"meridian/api"
)

// tilesIn is how many tiles a side has, the smaller one at its end too.
func tilesIn(side, tile int) int { return (side + tile - 1) / tile }

func tileMedians(p api.Picture, tile int) []int {
	l := make([]int, 0, tilesIn(p.Wide, tile)*tilesIn(p.High, tile))
	var counts []int
	for top := 0; top < p.High; top += tile {
		for left := 0; left < p.Wide; left += tile {
			counts = counts[:0]
			for y := top; y < min(top+tile, p.High); y++ {
				row := p.Counts[y*p.Wide : (y+1)*p.Wide]
				counts = append(counts, row[left:min(left+tile, p.Wide)]...)
			}
			slices.Sort(counts)
			l = append(l, counts[(len(counts)-1)/2])
		}
	}
	return l
}

// look at a picture: how much light each pixel has above its tile's ground (below 0:
// less than that), and whether it is lit.
func look(p api.Picture, tile, over int) ([]int, []bool, error) {
	ground, err := Ground(p, tile)
	if err != nil {
		return nil, nil, err
	}
	if over < 0 {
		return nil, nil, api.ErrShape
	}
	lights, lit := make([]int, len(p.Counts)), make([]bool, len(p.Counts))
	across := tilesIn(p.Wide, tile)
	for i, count := range p.Counts {
		x, y := i%p.Wide, i/p.Wide
		lights[i] = count - ground[y/tile*across+x/tile]
		lit[i] = lights[i] > over
	}
	return lights, lit, nil
}
