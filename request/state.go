package request

// state reads one byte and answers the state that reads the next one; nil, if the request is over.
type state func(b byte) state

// run is a row of bytes of one class, kept as they are read.
type run struct {
	least, most int
	has         func(b byte) bool
	keep        *[]byte
}

// piece makes the state that reads a run and then the ending, which is not empty; behind them comes what next makes.
func (r *Reader) piece(row run, ending string, next func() state) state {
	const (
		inRun = iota
		inEnding
	)
	at, kept, met := inRun, 0, 0
	var self state
	self = func(b byte) state {
		switch at {
		case inRun:
			if kept < row.most && row.has(b) {
				*row.keep = append(*row.keep, b)
				kept++
				return self
			}
			if kept < row.least {
				return r.fail(Malformed)
			}
			at = inEnding
			// Only a byte that is not the run's shows that the run is over, so that byte is the ending's.
			fallthrough
		case inEnding:
			if b != ending[met] {
				return r.fail(Malformed)
			}
			met++
			if met < len(ending) {
				return self
			}
		}
		return next()
	}
	return self
}

// exactly makes the state that reads the text and nothing else.
func (r *Reader) exactly(text string, next func() state) state {
	return r.piece(run{}, text, next)
}

func over() state { return nil }
