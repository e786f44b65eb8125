package sorter

import (
	"leporello/answer"
	"leporello/api"
	"leporello/merge"
	"leporello/purse"
	"leporello/row"
)

// sorting is what a sort has: its runs, those that are merged next first.
type sorting struct {
	order        int
	memory       *purse.Purse
	runs         [][]api.Row
	made, merges int
}

// makeRuns makes runs of rows, each of as many as there is room for.
func (s *sorting) makeRuns(l []api.Row) {
	from := 0
	for i, r := range l {
		if s.memory.Take(row.Cost(r)) {
			continue
		}
		s.makeRun(l[from:i])
		from = i
		s.memory.Take(row.Cost(r))
	}
	if from < len(l) {
		s.makeRun(l[from:])
	}
}

// makeRun makes a run of rows, which are all that is in use.
func (s *sorting) makeRun(l []api.Row) {
	s.runs = append(s.runs, answer.Sort(s.order, l...))
	s.memory.Give(s.memory.Now())
	s.made++
}

// mergeRuns merges runs, at most fan of them at a time, until one is left.
func (s *sorting) mergeRuns(fan int) {
	for len(s.runs) > 1 {
		n := min(fan, len(s.runs))
		first := s.runs[:n]
		s.useHeads(first)
		s.runs = append(s.runs[n:], merge.Rows(s.order, first...))
		s.merges++
	}
}

// useHeads has in use what the merging of runs has: their heads.
func (s *sorting) useHeads(runs [][]api.Row) {
	var left []run
	for _, l := range runs {
		left = append(left, s.begin(l))
	}
	// Heads, because Rows does not tell of which run a row is.
	for _, place := range merge.Heads(s.order, runs...) {
		left[place] = s.next(left[place])
	}
}

// begin takes the head of a run of rows, and tells that run.
func (s *sorting) begin(l []api.Row) run {
	r := runOf(l)
	if x, ok := r.(rows); ok {
		s.memory.Take(row.Cost(x[0]))
	}
	return r
}

// next gives back the head of a run, takes the one behind it, and tells the run
// that is left.
func (s *sorting) next(r run) run {
	x, ok := r.(rows)
	if !ok {
		return r
	}
	// Ahead of the next one, so that there is room for that.
	s.memory.Give(row.Cost(x[0]))
	return s.begin(x[1:])
}

// last tells the rows of the run that is left; none, if none was made.
func (s *sorting) last() []api.Row {
	if len(s.runs) == 0 {
		return nil
	}
	return s.runs[0]
}

// report tells what it took.
func (s *sorting) report() Report {
	return Report{Runs: s.made, Merges: s.merges, High: s.memory.High()}
}
