package matrix

// minors are the determinants of all square parts of a matrix, by the part's rows
// and columns. None is above 160 * 100^6, for 160 is the greatest determinant of
// 6 rows of numbers from -1 to 1.
type minors [1 << maxLines][1 << maxLines]int64

// minorsOf makes each one from lesser parts, which stand ahead of it.
func minorsOf(a [][]int) *minors {
	m := &minors{}
	m[0][0] = 1
	for rows, columns := range parts(a) {
		i := rows.first()
		for j := range columns.members() {
			m[rows][columns] += int64(a[i][j]) * m.cofactor(rows, columns, i, j)
		}
	}
	return m
}

// cofactor is what the determinant of a part grows by if the number at i, j does
// by 1.
func (m *minors) cofactor(rows, columns set, i, j int) int64 {
	minor := m[rows.without(i)][columns.without(j)]
	if (rows.place(i)+columns.place(j))%2 == 1 {
		return -minor
	}
	return minor
}
