package scan

import (
	"sawmill/api"
	"sawmill/wire"
	"slices"
	"strings"
)

// What a reading begins with in a text, and how many numbers a reading and a defect have there.
const (
	gapMark        = 0
	pointMark      = 1
	pointNumbers   = 3
	defectNumbers  = 7
	maxRingNumbers = pointNumbers * api.MaxPoints
	maxDefectList  = defectNumbers * api.MaxDefects
)

// Encode returns the text of a scan.
func Encode(s api.Scan) (string, api.Errno) {
	if e := Check(s); e != api.OK {
		return "", e
	}
	var distances []int
	var rings strings.Builder
	for i := range len(s.Rings) {
		distances = append(distances, s.Rings[i].Z)
		rings.WriteString(wire.Ints(readingNumbers(s.Rings[i].Read)))
	}
	return wire.Ints(distances) + rings.String() + wire.Ints(numbersOf(s.Defects)), api.OK
}

func readingNumbers(read []api.Reading) []int {
	var l []int
	for _, x := range read {
		if x.Ok {
			l = append(l, pointMark, x.P.X, x.P.Y)
		} else {
			l = append(l, gapMark)
		}
	}
	return l
}

func numbersOf(defects []api.Defect) []int {
	var l []int
	for _, d := range defects {
		l = append(l, d.Kind, d.Box.X.A, d.Box.X.B, d.Box.Y.A, d.Box.Y.B, d.Box.Z.A, d.Box.Z.B)
	}
	return l
}

// Decode returns the scan whose text is s.
func Decode(s string) (api.Scan, api.Errno) {
	described, ok := parse(s)
	if !ok {
		return api.Scan{}, api.ErrSyntax
	}
	if e := Check(described); e != api.OK {
		return api.Scan{}, e
	}
	return described, api.OK
}

// parse returns what a text describes, valid or not, and whether it has the form of a scan.
func parse(s string) (api.Scan, bool) {
	var described api.Scan
	r := wire.NewReader(s)
	// After a read that has failed, the others find nothing, and End remembers it.
	for _, z := range ints(r, api.MaxRings) {
		read, ok := readingsOf(ints(r, maxRingNumbers))
		if !ok {
			return api.Scan{}, false
		}
		described.Rings = append(described.Rings, api.Ring{Z: z, Read: read})
	}
	defects, ok := defectsOf(ints(r, maxDefectList))
	described.Defects = defects
	return described, ok && r.End() == api.OK
}

func ints(r *wire.Reader, most int) []int {
	return r.Ints(most, -api.MaxNumber, api.MaxNumber)
}

// readingsOf returns the readings that have the numbers l, and whether there are such.
func readingsOf(l []int) ([]api.Reading, bool) {
	var read []api.Reading
	for len(l) > 0 {
		switch {
		case l[0] == gapMark:
			read = append(read, api.Reading{})
			l = l[1:]
		case l[0] == pointMark && len(l) >= pointNumbers:
			read = append(read, api.Reading{P: api.Point{X: l[1], Y: l[2]}, Ok: true})
			l = l[pointNumbers:]
		default:
			return nil, false
		}
	}
	return read, true
}

// defectsOf returns the defects that have the numbers l, and whether there are such.
func defectsOf(l []int) ([]api.Defect, bool) {
	if len(l)%defectNumbers != 0 {
		return nil, false
	}
	var defects []api.Defect
	for n := range slices.Chunk(l, defectNumbers) {
		box := api.Box{X: api.Span{A: n[1], B: n[2]}, Y: api.Span{A: n[3], B: n[4]}, Z: api.Span{A: n[5], B: n[6]}}
		defects = append(defects, api.Defect{Kind: n[0], Box: box})
	}
	return defects, true
}
