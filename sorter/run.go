package sorter

import "leporello/api"

// run is a run that is merged: a value of one of the types below.
type run any

type (
	rows []api.Row // what is left of it: at least its head
	over struct{}
)

// runOf tells the run of what is left.
func runOf(l []api.Row) run {
	if len(l) == 0 {
		return over{}
	}
	return rows(l)
}
