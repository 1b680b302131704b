package turn

import "sandreckoner/api"

// state is numbers modulo m that are turned together.
type state [api.MaxState]int

// isModulus reports whether states are turned modulo m.
func isModulus(m int) bool {
	return m >= 1 && m <= api.MaxTurnMod
}

// pathOf returns the path of a turn from a start on, modulo m.
func pathOf(t api.Turn, start state, m int) path[state] {
	for i := range start {
		start[i] = mod(start[i], m)
	}
	return follow(start, turning(t, m))
}

// turning returns what a turn does to a state modulo m.
func turning(t api.Turn, m int) func(state) state {
	for i := range t.Rows {
		for j := range t.Rows[i] {
			// With any ints as factors the sums could wrap round.
			t.Rows[i][j] = mod(t.Rows[i][j], m)
		}
	}
	return func(s state) state {
		var next state
		for i, row := range t.Rows {
			sum := row[api.MaxState]
			for j, x := range s {
				sum += row[j] * x
			}
			next[i] = sum % m
		}
		return next
	}
}

// following returns the turn that takes numbers of a sequence that stand side by side, the first of them ahead, to those one place further. There are as many as factors.
func following(factors []int) api.Turn {
	var t api.Turn
	last := len(factors) - 1
	for i := range last {
		t.Rows[i][i+1] = 1
	}
	for i, factor := range factors {
		t.Rows[last][last-i] = factor
	}
	return t
}

// mod returns the remainder of n by m, which is not negative.
func mod(n, m int) int {
	left := n % m
	if left < 0 {
		left += m
	}
	return left
}
