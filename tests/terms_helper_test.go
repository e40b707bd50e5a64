package tests

import (
	"slices"
	"strconv"
	"strings"
	"testing"

	"loop.example/tradecircles/impl"
)

const (
	mostTermBytes = 60
	// pairedBytes is the greatest number of bytes of a term that the promises join to itself.
	pairedBytes = 27
	allLetters  = "abcde"
	// termSigns has all signs of the language.
	termSigns = "i-[]().abcde23456789"
)

// bonds has, for each person and each house, whether this person gets this house.
type bonds [impl.PeopleMax][impl.PeopleMax]bool

// joinedBy bonds a person to a house if there is somebody between: the first bonds are for the house of this one, whom the second ones bond to the house.
func joinedBy(first bonds, second bonds) bonds {
	var joined bonds
	for person := range first {
		for between := range first {
			for house := range first {
				if first[person][between] && second[between][house] {
					joined[person][house] = true
				}
			}
		}
	}
	return joined
}

func exchangedBonds(b bonds) bonds {
	var exchanged bonds
	for person := range b {
		for house := range b {
			exchanged[house][person] = b[person][house]
		}
	}
	return exchanged
}

func keepingBonds(n int) bonds {
	var keeping bonds
	for i := range n {
		keeping[i][i] = true
	}
	return keeping
}

func bondedAlong(n int, letters string) bonds {
	b := keepingBonds(n)
	for at := range letters {
		person, next := letters[at]-'a', letters[(at+1)%len(letters)]-'a'
		b[person][person] = false
		b[person][next] = true
	}
	return b
}

// piece is a byte of a text, or a part of it that is known to be a term.
type piece struct {
	sign  byte
	known bool
	trade bonds
}

func isCircle(n int, letters string) bool {
	for at := range letters {
		if !strings.Contains(allLetters[:n], letters[at:at+1]) || strings.Count(letters, letters[at:at+1]) > 1 {
			return false
		}
	}
	return len(letters) >= 2
}

// circlePieces has a text with each circle in it for n people as one piece.
func circlePieces(n int, s string) []piece {
	var pieces []piece
	for at := 0; at < len(s); at++ {
		letters, _, closed := strings.Cut(s[at+1:], "]")
		switch {
		case s[at] == 'i':
			pieces = append(pieces, piece{known: true, trade: keepingBonds(n)})
		case s[at] == '[' && closed && isCircle(n, letters):
			pieces = append(pieces, piece{known: true, trade: bondedAlong(n, letters)})
			at += len(letters) + 1
		default:
			pieces = append(pieces, piece{sign: s[at]})
		}
	}
	return pieces
}

// joinFirst returns the term of which the first pieces are the parts, and their number, which is 0 if they are no parts of one.
func joinFirst(p []piece) (piece, int) {
	if len(p) >= 2 && p[0].sign == '-' && p[1].known {
		return piece{known: true, trade: exchangedBonds(p[1].trade)}, 2
	}
	if len(p) >= 2 && p[0].sign >= '2' && p[0].sign <= '9' && p[1].known {
		trade := p[1].trade
		for range p[0].sign - '1' {
			trade = joinedBy(trade, p[1].trade)
		}
		return piece{known: true, trade: trade}, 2
	}
	if len(p) >= 5 && p[0].sign == '(' && p[1].known && p[2].sign == '.' && p[3].known && p[4].sign == ')' {
		return piece{known: true, trade: joinedBy(p[1].trade, p[3].trade)}, 5
	}
	return piece{}, 0
}

// tradeByJoining joins pieces of a text, from its end on, until none are left to join. It returns the giving of what is then there, or nil if this is not one term for n people.
func tradeByJoining(n int, s string) []int {
	if n < 2 || n > impl.PeopleMax || len(s) > mostTermBytes {
		return nil
	}
	pieces := circlePieces(n, s)
	for at := len(pieces) - 1; at >= 0; at-- {
		if joined, count := joinFirst(pieces[at:]); count > 0 {
			pieces = slices.Replace(pieces, at, at+count, joined)
		}
	}
	if len(pieces) != 1 || !pieces[0].known {
		return nil
	}
	g := make([]int, n)
	for i := range g {
		g[i] = slices.Index(pieces[0].trade[i][:], true)
	}
	return g
}

func keyOf(g []int) string {
	text := ""
	for _, house := range g {
		text += strconv.Itoa(house)
	}
	return text
}

// tidyTerms has, for each number of people, the tidy term of each giving.
var tidyTerms = []map[string]string{2: tidyByTrying(2), 3: tidyByTrying(3), 4: tidyByTrying(4), 5: tidyByTrying(5)}

// tidyByTrying tries all texts that are tidy: so it finds out nothing from a giving.
func tidyByTrying(n int) map[string]string {
	var rings []string
	for code := range power(n+1, n) {
		ring := ""
		for range n {
			ring += ("_" + allLetters)[code%(n+1) : code%(n+1)+1]
			code /= n + 1
		}
		ring = strings.TrimRight(ring, "_")
		if isCircle(n, ring) && ring[0] == slices.Min([]byte(ring)) {
			rings = append(rings, ring)
		}
	}
	texts := []string{"i"}
	for _, ring := range rings {
		texts = append(texts, "["+ring+"]")
		for _, other := range rings {
			if ring[0] < other[0] && !strings.ContainsAny(ring, other) {
				texts = append(texts, "(["+ring+"].["+other+"])")
			}
		}
	}
	tidy := map[string]string{}
	for _, text := range texts {
		tidy[keyOf(tradeByJoining(n, text))] = text
	}
	if len(tidy) != len(texts) || len(tidy) != len(ordersOf[n]) {
		panic("not one tidy term for each giving")
	}
	return tidy
}

// stepsFrom follows a giving from a person on.
func stepsFrom(g []int, person int, steps int) int {
	for range steps {
		person = g[person]
	}
	return person
}

// timesByTelling follows all people until each one is back.
func timesByTelling(g []int) int {
	for times := 1; ; times++ {
		back := true
		for i := range g {
			back = back && stepsFrom(g, i, times) == i
		}
		if back {
			return times
		}
	}
}

// movedByTelling counts a circle with the person of whom nobody on it is less.
func movedByTelling(g []int) (int, int) {
	moved, circles := 0, 0
	for i := range g {
		if g[i] == i {
			continue
		}
		moved++
		least := i
		for steps := range g {
			least = min(least, stepsFrom(g, i, steps))
		}
		if least == i {
			circles++
		}
	}
	return moved, circles
}

// termAnswers are those of the questions about one term.
type termAnswers struct {
	gives   []int
	tidy    string
	times   int
	moved   int
	circles int
}

func termByTelling(g []int) termAnswers {
	moved, circles := movedByTelling(g)
	return termAnswers{g, tidyTerms[len(g)][keyOf(g)], timesByTelling(g), moved, circles}
}

// wantTerm has all questions about a term answered as told.
func wantTerm(t *testing.T, n int, s string, want termAnswers) {
	t.Helper()
	if !impl.TermIn(n, s) {
		t.Errorf("TermIn(%d, %q) does not hold", n, s)
	}
	if got, ok := impl.TermGives(n, s); !ok || !slices.Equal(got, want.gives) {
		t.Errorf("TermGives(%d, %q) = %v, %t, want %v", n, s, got, ok, want.gives)
	}
	if got, ok := impl.TermTidy(n, s); !ok || got != want.tidy {
		t.Errorf("TermTidy(%d, %q) = %q, %t, want %q", n, s, got, ok, want.tidy)
	}
	if got, ok := impl.TermOf(want.gives); !ok || got != want.tidy {
		t.Errorf("TermOf(%v) = %q, %t, want %q", want.gives, got, ok, want.tidy)
	}
	if got, ok := impl.TermTimes(n, s); !ok || got != want.times {
		t.Errorf("TermTimes(%d, %q) = %d, %t, want %d", n, s, got, ok, want.times)
	}
	if moved, circles, ok := impl.TermMoved(n, s); !ok || moved != want.moved || circles != want.circles {
		t.Errorf("TermMoved(%d, %q) = %d, %d, %t, want %d, %d", n, s, moved, circles, ok, want.moved, want.circles)
	}
	wantSame(t, n, s, s, true)
	wantSame(t, n, s, want.tidy, true)
}

// wantSame also has both terms exchanged.
func wantSame(t *testing.T, n int, s string, other string, want bool) {
	t.Helper()
	if got := impl.TermSame(n, s, other); got != want {
		t.Errorf("TermSame(%d, %q, %q) = %t", n, s, other, got)
	}
	if got := impl.TermSame(n, other, s); got != want {
		t.Errorf("TermSame(%d, %q, %q) = %t", n, other, s, got)
	}
}

// wantNoTerm has all questions about a text fail with zero values.
func wantNoTerm(t *testing.T, n int, s string) {
	t.Helper()
	if impl.TermIn(n, s) {
		t.Errorf("TermIn(%d, %q) holds", n, s)
	}
	if got, ok := impl.TermGives(n, s); ok || len(got) != 0 {
		t.Errorf("TermGives(%d, %q) = %v, %t", n, s, got, ok)
	}
	if got, ok := impl.TermTidy(n, s); ok || got != "" {
		t.Errorf("TermTidy(%d, %q) = %q, %t", n, s, got, ok)
	}
	if got, ok := impl.TermTimes(n, s); ok || got != 0 {
		t.Errorf("TermTimes(%d, %q) = %d, %t", n, s, got, ok)
	}
	if moved, circles, ok := impl.TermMoved(n, s); ok || moved != 0 || circles != 0 {
		t.Errorf("TermMoved(%d, %q) = %d, %d, %t", n, s, moved, circles, ok)
	}
	wantSame(t, n, s, s, false)
	wantSame(t, n, s, "i", false)
	wantSame(t, n, s, "[ab]", false)
}

// wantText has all questions about a text answered as its own reading tells, and returns whether it is a term for n people.
func wantText(t *testing.T, n int, s string) bool {
	t.Helper()
	g := tradeByJoining(n, s)
	if g == nil {
		wantNoTerm(t, n, s)
		return false
	}
	wantTerm(t, n, s, termByTelling(g))
	return true
}

// givesOf and the functions behind it are for arguments of which it is known that they are terms.
func givesOf(t *testing.T, n int, s string) []int {
	t.Helper()
	g, ok := impl.TermGives(n, s)
	if !ok || len(g) != n {
		t.Fatalf("TermGives(%d, %q) = %v, %t", n, s, g, ok)
	}
	return g
}

func tidyOf(t *testing.T, n int, s string) string {
	t.Helper()
	tidy, ok := impl.TermTidy(n, s)
	if !ok {
		t.Fatalf("TermTidy(%d, %q) fails", n, s)
	}
	return tidy
}

func randomRing(d *dice, n int) string {
	ring := "["
	for _, person := range randomOrder(d, n)[:2+d.below(n-1)] {
		ring += allLetters[person : person+1]
	}
	return ring + "]"
}

// randomTerm returns a term for n people with brackets at most as deep as told, of any number of bytes.
func randomTerm(d *dice, n int, deep int) string {
	kind := d.below(8)
	switch {
	case kind == 0:
		return "i"
	case kind <= 2 || deep == 0 && kind >= 5:
		return randomRing(d, n)
	case kind == 3:
		return "-" + randomTerm(d, n, deep)
	case kind == 4:
		return strconv.Itoa(2+d.below(8)) + randomTerm(d, n, deep)
	}
	return "(" + randomTerm(d, n, deep-1) + "." + randomTerm(d, n, deep-1) + ")"
}

// signedTo puts signs in front of a text until it has as many bytes as told.
func signedTo(d *dice, s string, bytes int) string {
	for len(s) < bytes {
		at := d.below(9)
		s = "-23456789"[at:at+1] + s
	}
	return s
}

// sampleTerms has terms for n people, short ones, those of many signs, and those of about as many bytes as there may be.
func sampleTerms(n int, count int) []string {
	d := dice(500 + n)
	all := []string{"i", "[ab]", "[ba]", "--[ab]", "2[ab]", "-2[ab]", "2-[ab]", "23[ab]", "([ab].i)", "(i.i)", "-(i.[ab])"}
	for len(all) < count {
		s := randomTerm(&d, n, d.below(5))
		signed := signedTo(&d, randomTerm(&d, n, d.below(3)), 1+d.below(mostTermBytes))
		full := signedTo(&d, s, mostTermBytes-d.below(2))
		for _, text := range []string{s, signed, full} {
			if len(text) <= mostTermBytes {
				all = append(all, text)
			}
		}
	}
	return all
}
