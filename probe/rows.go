package probe

// RankOfRows of whole numbers: how many of them are independent, at most. It is
// the greater one of two ranks modulo primes, which are never too great; one of
// both is right while no determinant is beyond 2^60 (no number but 0 that is
// less can be divided by both primes).
func RankOfRows(rows [][]int) int {
	return max(rankModulo(1<<31-1, rows), rankModulo(1<<31-19, rows))
}

func rankModulo(p int, rows [][]int) int {
	left := make([][]int, 0, len(rows))
	for _, row := range rows {
		reduced := make([]int, len(row))
		for i, v := range row {
			reduced[i] = (v%p + p) % p
		}
		left = append(left, reduced)
	}
	rank := 0
	for len(left) > 0 {
		first := left[0]
		left = left[1:]
		at := firstNotNought(first)
		if at < 0 {
			continue
		}
		rank++
		for _, row := range left {
			clearAt(p, row, first, at)
		}
	}
	return rank
}

// firstNotNought: where the first number that is not 0 stands; -1, if none is.
func firstNotNought(row []int) int {
	for i, v := range row {
		if v != 0 {
			return i
		}
	}
	return -1
}

// clearAt a place: a multiple of the row, and of another that is not 0 there.
func clearAt(p int, row, by []int, at int) {
	times, add := by[at], p-row[at]
	for i := range row {
		row[i] = (row[i]*times%p + by[i]*add%p) % p
	}
}
