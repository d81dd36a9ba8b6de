package locks

import (
	"iter"
	"slices"

	"stile/api"
	"stile/modes"
)

// those are the requests of some kind, in order, each with its place; a nil table has none.
func (t *Table) those(wanted func(api.Request) bool) iter.Seq2[int, api.Request] {
	return func(yield func(int, api.Request) bool) {
		if t == nil {
			return
		}
		for at, r := range t.requests {
			if wanted(r) && !yield(at, r) {
				return
			}
		}
	}
}

// some tells whether there is a request.
func some(requests iter.Seq2[int, api.Request]) bool {
	for range requests {
		return true
	}
	return false
}

// waits tells whether a request waits.
func waits(r api.Request) bool { return !r.Granted }

// having are the requests by each of which a transaction has a lock.
func (t *Table) having(tx int, o api.Object, m api.Mode) iter.Seq2[int, api.Request] {
	return t.those(func(r api.Request) bool {
		return r.Tx == tx && r.Granted && modes.Covers(r.Mode, m) && modes.Within(o, r.Object)
	})
}

// keep lets a lock that a transaction has stay behind its statement. What is short and stronger, or around it, stays short: more was not asked for.
func (t *Table) keep(tx int, o api.Object, m api.Mode) {
	for at, r := range t.having(tx, o, m) {
		if r.Object == o && r.Mode == m {
			t.requests[at].Short = false
		}
	}
}

// against are the transactions that keep the request at a place, which is not granted, waiting; each as often as it has requests that do.
func (t *Table) against(at int) iter.Seq[int] {
	return func(yield func(int) bool) {
		asked, converts := t.requests[at], t.isConversion(at)
		blocks := func(r api.Request) bool { return clash(r, asked) }
		for place, r := range t.those(blocks) {
			counts := r.Granted || place < at && !converts
			if counts && !yield(r.Tx) {
				return
			}
		}
	}
}

// isConversion tells whether the transaction of the request at a place has locked just the same object already.
func (t *Table) isConversion(at int) bool {
	asked := t.requests[at]
	// What is granted of it stands ahead of what waits of it, so that places need not be asked.
	return some(t.those(func(r api.Request) bool {
		return r.Tx == asked.Tx && r.Granted && r.Object == asked.Object
	}))
}

// clash tells whether a request clashes with another one that waits.
func clash(r, waiting api.Request) bool {
	return r.Tx != waiting.Tx && !fit(r, waiting) && modes.Meet(r.Object, waiting.Object)
}

// fit tells whether the mode of a request that waits fits beside another one's; of two that wait each must, for either may be granted first.
func fit(r, waiting api.Request) bool {
	return modes.Fits(r.Mode, waiting.Mode) && (r.Granted || modes.Fits(waiting.Mode, r.Mode))
}

// grant grants the request at a place, if it may be; whether it is.
func (t *Table) grant(at int) bool {
	for range t.against(at) {
		return false
	}
	t.requests[at].Granted = true
	return true
}

// endThose takes requests of some kind away, and grants what may be granted then; the transactions of these.
func (t *Table) endThose(unwanted func(api.Request) bool) []int {
	if t == nil {
		return nil
	}
	t.requests = slices.DeleteFunc(t.requests, unwanted)
	var granted []int
	// One way through is enough: what is granted keeps none waiting any less that stands ahead of it, so the first that may be granted next always stands behind.
	for at, r := range t.those(waits) {
		if t.grant(at) {
			granted = append(granted, r.Tx)
		}
	}
	return granted
}
