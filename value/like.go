package value

// Like tells whether the whole text follows a pattern: % stands for any bytes or none, _ for any one byte.
func Like(text, pattern string) bool {
	at, part := 0, 0
	// Only the last % is ever gone back to: what the ones ahead of it stand for can stay as short as it is. That keeps the steps to the product of both lengths.
	behind, from := -1, 0
	for at < len(text) {
		switch {
		case part < len(pattern) && pattern[part] == '%':
			part++
			behind, from = part, at
		case part < len(pattern) && (pattern[part] == '_' || pattern[part] == text[at]):
			part++
			at++
		case behind >= 0:
			from++
			part, at = behind, from
		default:
			return false
		}
	}
	return onlyAny(pattern[part:])
}

// onlyAny tells whether a pattern's rest can stand for no bytes.
func onlyAny(rest string) bool {
	for i := range len(rest) {
		if rest[i] != '%' {
			return false
		}
	}
	return true
}
