package request

func isCapital(b byte) bool { return 'A' <= b && b <= 'Z' }

func isSmall(b byte) bool { return 'a' <= b && b <= 'z' }

func isDigit(b byte) bool { return '0' <= b && b <= '9' }

func isNameByte(b byte) bool {
	return isCapital(b) || isSmall(b) || isDigit(b) || b == '-'
}

func isPathByte(b byte) bool {
	return isNameByte(b) || b == '/' || b == '_' || b == '.'
}

func isValueByte(b byte) bool { return 32 <= b && b <= 126 || b == 9 }

func isSign(b byte) bool {
	return isDigit(b) || 'A' <= b && b <= 'F' || 'a' <= b && b <= 'f'
}

func isAny(byte) bool { return true }
