// Package draws has numbers for tests: of all kinds, but the same ones each time that a test runs.
package draws

// Row is where a row of numbers stands; what it is at first says which row it is.
type Row uint64

// Next is the next number of the row.
func (r *Row) Next() uint64 {
	*r += 0x9e3779b97f4a7c15
	z := uint64(*r)
	z = (z ^ z>>30) * 0xbf58476d1ce4e5b9
	z = (z ^ z>>27) * 0x94d049bb133111eb
	return z ^ z>>31
}

// Shuffled is a list in an order that is drawn.
func Shuffled[T any](r *Row, l []T) []T {
	l = append([]T(nil), l...)
	for k := range l {
		i := k + int(r.Next()%uint64(len(l)-k))
		l[k], l[i] = l[i], l[k]
	}
	return l
}
