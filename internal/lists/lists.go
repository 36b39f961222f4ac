// Package lists is for tests that ask where lists lie: it has lists with spare room in which it is seen whether somebody wrote there, and tells whether lists share memory.
package lists

// Room is a list with spare room in which something stands.
func Room[T any](l []T, spare T) []T {
	r := make([]T, len(l), len(l)+2)
	copy(r, l)
	r[:len(l)+1][len(l)], r[:len(l)+2][len(l)+1] = spare, spare
	return r
}

// Apart tells whether no two of these lists lie in one memory, their spare room included.
func Apart[T any](all ...[]T) bool {
	seen, many := map[*T]struct{}{}, 0
	for _, l := range all {
		l = l[:cap(l)]
		many += len(l)
		for k := range l {
			seen[&l[k]] = struct{}{}
		}
	}
	return len(seen) == many
}
