package nth

import "strconv"

// size: a number without its sign. As a uint, since the least int's is no int.
func size(x int) uint {
	if x < 0 {
		return uint(-(x + 1)) + 1
	}
	return uint(x)
}

// above: by how much a number of 1 or more is above another one. As a uint, since that one may be the least int.
func above(n, other int) uint {
	if other < 0 {
		return uint(n) + size(other)
	}
	return uint(n - other)
}

// least: the least of 1 or more that fits, without a bound; 0: there is none.
func least(a, b int) int {
	switch {
	case a > 0 && b < 1:
		// What is left is below a, and so an int.
		return a - int(size(b)%size(a))
	case b < 1:
		return 0
	case a < 0:
		return int(uint(b-1)%size(a)) + 1
	}
	return b
}

// times: what is written ahead of n.
func times(a int) string {
	switch a {
	case 1:
		return ""
	case -1:
		return "-"
	}
	return strconv.Itoa(a)
}

// plus: what is written behind n.
func plus(b int) string {
	switch {
	case b == 0:
		return ""
	case b < 0:
		return strconv.Itoa(b)
	}
	return "+" + strconv.Itoa(b)
}
