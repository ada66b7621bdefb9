package desk

import "strings"

// command is a line that is one: what is done, and what its words say.
type command struct {
	row
	args
}

// linesOf are the lines of a script. The last one may do without its byte 10: behind that there is none.
func linesOf(script string) []string {
	if script == "" {
		return nil
	}
	return strings.Split(strings.TrimSuffix(script, "\n"), "\n")
}

// commands are those of lines; or else the number, from 1 on, of the first line that may not stand there.
func commands(lines []string) ([]command, int) {
	all := rows()
	var l []command
	var open *command // the one that takes program lines, nil if the line ahead was none of its
	for n, line := range lines {
		text, bar := strings.CutPrefix(line, "|")
		if bar && open != nil {
			open.text += text + "\n"
			continue
		}
		open = nil
		if isNote(line) {
			continue
		}
		c, ok := commandOf(all, line)
		if !ok {
			return nil, n + 1
		}
		l = append(l, c)
		if c.lines {
			open = &l[len(l)-1]
		}
	}
	return l, 0
}

// isNote tells whether a line is a note.
func isNote(line string) bool { return line == "" || line[0] == '#' }

// commandOf is the command of a line, and whether it is one.
func commandOf(all map[string]row, line string) (command, bool) {
	words, ok := Words(line)
	if !ok {
		return command{}, false
	}
	r, known := all[words[0]]
	if !known {
		return command{}, false
	}
	a, fit := read(r.form, words[1:])
	return command{r, a}, fit
}
