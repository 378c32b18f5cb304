package board

// Empty is the byte of a cell without a piece.
const Empty = '.'

// caseBit is the one bit in which a capital letter and its small one differ.
const caseBit = 'a' ^ 'A'

func isCapital(c byte) bool { return 'A' <= c && c <= 'Z' }

func isCell(c byte) bool { return c == Empty || isCapital(Capital(c)) }

// Capital is the letter of the piece of a cell that is not empty, whichever
// player's it is.
func Capital(c byte) byte { return c &^ caseBit }

// LetterOf is what stands in a cell for a player's piece.
func LetterOf(player int, capital byte) byte { return capital | byte(player)*caseBit }

// IsOf tells whether the byte of a cell is a piece of that player.
func IsOf(player int, c byte) bool { return c != Empty && LetterOf(player, Capital(c)) == c }
