package desk

import (
	"strconv"
	"strings"

	"scarab/api"
	"scarab/verdict"
)

// listed is a word, and behind it things, each as a function tells it.
func listed[T any](word string, things []T, tell func(T) string) []string {
	told := []string{word}
	for _, x := range things {
		told = append(told, tell(x))
	}
	return told
}

// numbered is a word, and numbers behind it.
func numbered(word string, l ...int) []string { return listed(word, l, strconv.Itoa) }

// whole tells whether all was seen.
func whole(complete bool) string {
	if complete {
		return "complete"
	}
	return "open"
}

// hexText are bytes as a word.
func hexText(b []byte) string {
	if len(b) == 0 {
		return "-"
	}
	var out strings.Builder
	for _, c := range b {
		out.WriteByte(digits[c>>4])
		out.WriteByte(digits[c&15])
	}
	return out.String()
}

// pickText is a pick as a word.
func pickText(pick api.Pick) string { return joined([]int{pick.Go, pick.Alt}, ".") }

// eventText is an event in short.
func eventText(x api.Event) string {
	return joined([]int{x.Go, int(x.Op)}, ".") + "." + strconv.FormatInt(x.Val, 10)
}

// placeText is a place in words.
func placeText(s api.Spot) string { return "f" + joined([]int{s.Func, s.PC}, ":") }

// edgeText is an edge as a word.
func edgeText(pair [2]int) string { return joined(pair[:], "-") }

// ringText is a ring of locks as a word.
func ringText(ring []int) string { return joined(ring, "-") }

// joined are numbers with something between each two.
func joined(l []int, between string) string {
	texts := make([]string, len(l))
	for i, x := range l {
		texts[i] = strconv.Itoa(x)
	}
	return strings.Join(texts, between)
}

// foundText is what was found, told as a text. It is of a kind that there is.
func foundText(f api.Found) string {
	text, _ := verdict.Text(f)
	return Told(text)
}

// findingText is what a finding found.
func findingText(f api.Finding) string { return foundText(f.Found) }
