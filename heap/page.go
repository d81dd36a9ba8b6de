package heap

import (
	"iter"

	"stile/api"
)

const (
	maxSlots  = 256
	countSize = 2
	slotSize  = 4
)

// slots goes over a page's slots and their records: a free slot's has no bytes.
func slots(content []byte) iter.Seq2[int, []byte] {
	return func(yield func(slot int, record []byte) bool) {
		// Other hands may have put to the page, so that neither its count nor its places are trusted.
		for slot := range min(number(content, 0), maxSlots) {
			at := slotAt(slot)
			if !yield(slot, piece(content, number(content, at), number(content, at+2))) {
				return
			}
		}
	}
}

// piece is nothing, if it does not lie within the page.
func piece(content []byte, place, length int) []byte {
	if place+length > len(content) {
		return nil
	}
	return content[place : place+length]
}

// hasRecord tells whether a page has this slot, and it is not free.
func hasRecord(content []byte, wanted int) bool {
	for slot, record := range slots(content) {
		if slot == wanted {
			return len(record) > 0
		}
	}
	return false
}

// recordsOf is a page's records by their slots.
func recordsOf(content []byte) [][]byte {
	var records [][]byte
	for _, record := range slots(content) {
		records = append(records, record)
	}
	return records
}

// room is how many bytes more a page of these records could hold.
func room(records [][]byte) int {
	left := api.PageSize - slotAt(len(records))
	for _, record := range records {
		left -= len(record)
	}
	return left
}

// placeFor is the slot that a record of this length gets in a page that has room for it: the first free one, or a new one behind.
func placeFor(records [][]byte, length int) (slot int, found bool) {
	left := room(records)
	for slot, record := range records {
		if len(record) == 0 {
			return slot, length <= left
		}
	}
	return len(records), len(records) < maxSlots && length+slotSize <= left
}

// layOut is the page of records for which there is room.
func layOut(records [][]byte) []byte {
	content := make([]byte, api.PageSize)
	setNumber(content, 0, len(records))
	place := slotAt(len(records))
	for slot, record := range records {
		if len(record) > 0 {
			setSlot(content, slot, place, len(record))
			place += copy(content[place:], record)
		}
	}
	return content
}

// slotAt is where a slot stands in its page.
func slotAt(slot int) int { return countSize + slotSize*slot }

func setSlot(content []byte, slot, place, length int) {
	setNumber(content, slotAt(slot), place)
	setNumber(content, slotAt(slot)+2, length)
}

func number(content []byte, at int) int { return int(content[at]) | int(content[at+1])<<8 }

func setNumber(content []byte, at, n int) {
	content[at], content[at+1] = byte(n), byte(n>>8)
}
