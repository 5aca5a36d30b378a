package repr

import (
	"rota/api"
	"rota/axioms"
	"rota/kinds"
	"rota/minors"
	"rota/same"
)

// hasNone: has m none of the matroids that bar as a minor, but for names?
func hasNone(m api.Matroid, bars ...api.Matroid) (bool, api.Errno) {
	if e := axioms.Check(m); e != api.OK {
		return false, e
	}
	for _, bar := range bars {
		if _, _, e := same.Minor(m, bar); e == api.OK {
			return false, api.OK
		}
	}
	return true, api.OK
}

// What follows is made of what is known to be right, so nothing is refused.

func uniform(rank, n int) api.Matroid {
	m, _ := kinds.Uniform(rank, n)
	return m
}

func fano() api.Matroid {
	m, _ := kinds.Named("fano")
	return m
}

func dual(m api.Matroid) api.Matroid {
	d, _ := minors.Dual(m)
	return d
}
