package field

import (
	"slices"

	"roundelay/api"
	"roundelay/base"
)

// residue reports whether a number is a residue.
func residue(n int) bool { return n >= 0 && n < P }

// Norm returns the residue of a number.
func Norm(n int) int { return (n%P + P) % P }

// add returns the sum of residues.
func add(residues ...int) int {
	sum := 0
	for _, n := range residues {
		sum = (sum + n) % P
	}
	return sum
}

// power returns a residue multiplied by itself so many times.
func power(n, exponent int) int {
	result := 1
	for ; exponent > 0; exponent /= 2 {
		if exponent%2 == 1 {
			result = result * n % P
		}
		n = n * n % P
	}
	return result
}

// Inv returns the inverse of a residue.
func Inv(n int) (int, api.Errno) {
	if !residue(n) {
		return 0, api.ErrRange
	}
	if n == 0 {
		return 0, api.ErrClash
	}
	return power(n, P-2), api.OK
}

// Pow returns a power of a residue.
func Pow(n, exponent int) (int, api.Errno) {
	if !residue(n) || exponent < 0 {
		return 0, api.ErrRange
	}
	return power(n, exponent), api.OK
}

// Check returns the error of a matrix.
func Check(a [][]int) api.Errno {
	if len(a) < 1 || len(a) > MaxSize || len(a[0]) < 1 || len(a[0]) > MaxSize {
		return api.ErrMany
	}
	if !base.Every(a, func(row []int) bool { return len(row) == len(a[0]) }) {
		return api.ErrForm
	}
	if !base.Every(a, func(row []int) bool { return base.Every(row, residue) }) {
		return api.ErrRange
	}
	return api.OK
}

// checkSquare returns the error of a matrix, and ErrClash if it is not square.
func checkSquare(a [][]int) api.Errno {
	if e := Check(a); e != api.OK {
		return e
	}
	if len(a) != len(a[0]) {
		return api.ErrClash
	}
	return api.OK
}

// copyRows returns rows that share no memory with them.
func copyRows[T any](rows [][]T) [][]T {
	l := make([][]T, len(rows))
	for i, row := range rows {
		l[i] = slices.Clone(row)
	}
	return l
}

// zero returns a matrix of noughts, identity one with 1 from corner to corner.
func zero(rows, columns int) [][]int {
	l := make([][]int, rows)
	for i := range l {
		l[i] = make([]int, columns)
	}
	return l
}

func identity(size int) [][]int {
	l := zero(size, size)
	for i := range size {
		l[i][i] = 1
	}
	return l
}

// mul returns the product of two matrices that go together.
func mul(a, b [][]int) [][]int {
	c := zero(len(a), len(b[0]))
	for i := range c {
		for k := range c[i] {
			for j := range b {
				c[i][k] = add(c[i][k], a[i][j]*b[j][k]%P)
			}
		}
	}
	return c
}

// Mul returns the product of two matrices.
func Mul(a, b [][]int) ([][]int, api.Errno) {
	if e := Check(a); e != api.OK {
		return nil, e
	}
	if e := Check(b); e != api.OK {
		return nil, e
	}
	if len(a[0]) != len(b) {
		return nil, api.ErrClash
	}
	return mul(a, b), api.OK
}

// powerOf returns a square matrix multiplied by itself so many times.
func powerOf(a [][]int, n int) [][]int {
	result := identity(len(a))
	for ; n > 0; n /= 2 {
		if n%2 == 1 {
			result = mul(result, a)
		}
		a = mul(a, a)
	}
	return result
}

// Power returns a power of a matrix.
func Power(a [][]int, n int) ([][]int, api.Errno) {
	if e := checkSquare(a); e != api.OK {
		return nil, e
	}
	if n < 0 {
		return nil, api.ErrRange
	}
	return powerOf(a, n), api.OK
}

// matrix is rows of residues.
type matrix struct{ rows [][]int }

// system is a matrix at work: for each row that is done, the column of its pivot, and the determinant so far.
type system struct {
	matrix
	pivots []int
	det    int
}

// pivot finds a row that is not done and has no nought in a column, and makes it the next one that is done.
func (s *system) pivot(column int) bool {
	done, found := len(s.pivots), false
search:
	for i := done; i < len(s.rows); i++ {
		if s.rows[i][column] == 0 {
			continue search
		}
		if i != done {
			s.rows[i], s.rows[done] = s.rows[done], s.rows[i]
			s.det = Norm(-s.det)
		}
		found = true
		break search
	}
	return found
}

// clear makes the pivot of a row 1, and all others of its column 0.
func (s *system) clear(row, column int) {
	s.det = s.det * s.rows[row][column] % P
	by := power(s.rows[row][column], P-2)
	for j := range s.rows[row] {
		s.rows[row][j] = s.rows[row][j] * by % P
	}
	for i := range s.rows {
		by := s.rows[i][column]
		if i == row || by == 0 {
			continue
		}
		for j := range s.rows[i] {
			s.rows[i][j] = Norm(s.rows[i][j] - by*s.rows[row][j])
		}
	}
}

// eliminate does this for columns in an order.
func eliminate(rows [][]int, columns []int) *system {
	s := &system{matrix: matrix{copyRows(rows)}, det: 1}
	find := s.pivot
	for _, c := range columns {
		if find(c) {
			s.clear(len(s.pivots), c)
			s.pivots = append(s.pivots, c)
		} else {
			s.det = 0
		}
	}
	return s
}

// rising returns the numbers from 0 on.
func rising(many int) []int {
	l := make([]int, many)
	for i := range many {
		l[i] = i
	}
	return l
}

// Rank returns the rank of a matrix.
func Rank(a [][]int) (int, api.Errno) {
	if e := Check(a); e != api.OK {
		return 0, e
	}
	return len(eliminate(a, rising(len(a[0]))).pivots), api.OK
}

// Det returns the determinant of a matrix.
func Det(a [][]int) (int, api.Errno) {
	if e := checkSquare(a); e != api.OK {
		return 0, e
	}
	return eliminate(a, rising(len(a))).det, api.OK
}

// Inverse returns the inverse of a matrix.
func Inverse(a [][]int) ([][]int, api.Errno) {
	if e := checkSquare(a); e != api.OK {
		return nil, e
	}
	both := copyRows(a)
	for i, row := range identity(len(a)) {
		both[i] = append(both[i], row...)
	}
	s := eliminate(both, rising(len(a)))
	if len(s.pivots) < len(a) {
		return nil, api.ErrNone
	}
	l := zero(len(a), len(a))
	for i, row := range s.rows {
		copy(l[i], row[len(a):])
	}
	return l, api.OK
}

// solve returns the first solution in lexicographic order of a system of so many columns, which may have any number of rows.
func solve(a [][]int, b []int, columns int) ([]int, bool) {
	both := copyRows(a)
	for i := range both {
		both[i] = append(both[i], b[i])
	}
	// With pivots as far behind as can be, what is free comes before what depends on it, and is 0.
	order := rising(columns)
	slices.Reverse(order)
	s := eliminate(both, order)
	x := make([]int, columns)
	for i, row := range s.rows {
		if i < len(s.pivots) {
			x[s.pivots[i]] = row[columns]
		} else if row[columns] != 0 {
			return nil, false
		}
	}
	return x, true
}

// Solve returns the first solution of a system.
func Solve(a [][]int, b []int) ([]int, api.Errno) {
	if e := Check(a); e != api.OK {
		return nil, e
	}
	if len(b) != len(a) {
		return nil, api.ErrForm
	}
	if !base.Every(b, residue) {
		return nil, api.ErrRange
	}
	x, is := solve(a, b, len(a[0]))
	if !is {
		return nil, api.ErrNone
	}
	return x, api.OK
}

// Char returns the coefficients of the characteristic polynomial.
func Char(a [][]int) ([]int, api.Errno) {
	if e := checkSquare(a); e != api.OK {
		return nil, e
	}
	c := make([]int, len(a))
	m := identity(len(a))
	for k := range len(a) {
		m = mul(a, m)
		trace := 0
		for i := range m {
			trace = add(trace, m[i][i])
		}
		// Each coefficient is the sum of the corner-to-corner line, divided by how many there are so far.
		c[k] = trace * power(k+1, P-2) % P
		for i := range m {
			m[i][i] = Norm(m[i][i] - c[k])
		}
	}
	return c, api.OK
}
