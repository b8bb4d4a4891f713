package field

// Row is a slice of a file as numbers of the field.
type Row []uint16

// ReadRow takes two bytes for each number, the high one first.
func ReadRow(slice string) Row {
	row := make(Row, len(slice)/2)
	for i := range row {
		row[i] = uint16(slice[2*i])<<8 | uint16(slice[2*i+1])
	}
	return row
}

// Text answers the bytes that ReadRow reads as this row.
func (r Row) Text() string {
	text := make([]byte, 0, 2*len(r))
	for _, number := range r {
		text = append(text, byte(number>>8), byte(number))
	}
	return string(text)
}

// Mix answers the sum of rows of one width, each as often as its weight says.
func Mix(rows []Row, weights []uint16, width int) Row {
	sum := make(Row, width)
	for i, row := range rows {
		for place := range sum {
			sum[place] ^= Times(weights[i], row[place])
		}
	}
	return sum
}
