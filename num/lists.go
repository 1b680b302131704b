package num

import "slices"

// ordered returns the elements of a list in order; those that compare as the same stay as they stand.
func ordered[T any](list []T, compare func(x, y T) int) []T {
	if len(list) < 2 {
		return slices.Clone(list)
	}
	middle := len(list) / 2
	return merged(ordered(list[:middle], compare), ordered(list[middle:], compare), compare)
}

// merged returns the elements of two lists that are in order, in order.
func merged[T any](x, y []T, compare func(x, y T) int) []T {
	// The lists mostly consist of a few parts that are in order already: then this saves most comparisons.
	if len(x) == 0 || len(y) == 0 || compare(x[len(x)-1], y[0]) <= 0 {
		return slices.Concat(x, y)
	}
	out := make([]T, 0, len(x)+len(y))
	for len(x) > 0 && len(y) > 0 {
		if compare(x[0], y[0]) <= 0 {
			out = append(out, x[0])
			x = x[1:]
		} else {
			out = append(out, y[0])
			y = y[1:]
		}
	}
	out = append(out, x...)
	return append(out, y...)
}

// compareLists returns how two lists compare at the first place at which they differ; sign tells how an element compares with none.
func compareLists[T any](x, y []T, compare func(x, y T) int, sign func(T) int) int {
	for i := range min(len(x), len(y)) {
		if order := compare(x[i], y[i]); order != 0 {
			return order
		}
	}
	switch {
	case len(x) > len(y):
		return sign(x[len(y)])
	case len(x) < len(y):
		return -sign(y[len(x)])
	}
	return 0
}
