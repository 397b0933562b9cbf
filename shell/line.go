package shell

import (
	"slices"
	"strings"

	"roundelay/api"
	"roundelay/base"
)

// wants is what words a command wants: names, then numbers, then more names, or more words of any kind, or a text.
type wants struct {
	names, numbers    int
	more, words, text bool
}

// words yields the words of a text, put apart by one blank each.
func words(s string) func(yield func(string) bool) {
	return func(yield func(string) bool) {
		for {
			word, rest, is := strings.Cut(s, " ")
			if !yield(word) || !is {
				return
			}
			s = rest
		}
	}
}

// isNumber reports whether a word is a number.
func isNumber(s string) bool {
	_, is := base.Number(s)
	return is
}

// isWord reports whether a text is one word.
func isWord(s string) bool { return s != "" && !strings.Contains(s, " ") }

// fit reports whether a command may have some words.
func (w wants) fit(args []string) bool {
	if w == (wants{}) {
		return len(args) == 0
	}
	least := w.names + w.numbers
	if w.text {
		least++
	}
	if len(args) < least || len(args) > least && !w.more && !w.words {
		return false
	}
	rest := args[w.names+w.numbers:]
	switch {
	case !base.Every(args[:w.names], base.IsName) || !base.Every(args[w.names:w.names+w.numbers], isNumber):
		return false
	case w.text:
		return rest[0] != ""
	case w.more:
		return base.Every(rest, base.IsName)
	}
	return base.Every(rest, isWord)
}

// front returns the first four bytes of a line, as far as there are any.
func front(line string) [4]byte {
	var b [4]byte
	copy(b[:], line)
	return b
}

// hasText reports whether a line is one of a command with a text.
func hasText(line string) bool {
	f := front(line)
	return f == [4]byte{'d', 'e', 'f', ' '} || f == [4]byte{'p', 'u', 't', ' '} || f == [4]byte{'l', 'e', 't', ' '} || f == [4]byte{'a', 's', 'k', ' '}
}

// Read returns the command that a line is.
func Read(line string) (api.Command, api.Errno) {
	if len(line) > api.MaxBytes {
		return api.Command{}, api.ErrLong
	}
	var l []string
	if hasText(line) {
		// A text is one word, with its blanks.
		k, _ := find(line[:3])
		l = strings.SplitN(line, " ", 2+k.wants.names)
	} else {
		for word := range words(line) {
			l = append(l, word)
		}
	}
	c := api.Command{Word: l[0], Args: slices.Clone(l[1:])}
	if k, is := find(c.Word); !is || !k.wants.fit(c.Args) {
		return api.Command{}, api.ErrForm
	}
	return c, api.OK
}

// said puts words together to a reply, or a line.
func said(words ...string) string { return strings.Join(words, " ") }

// Write returns the line of a command.
func Write(c api.Command) (string, api.Errno) {
	if k, is := find(c.Word); !is || !k.wants.fit(c.Args) {
		return "", api.ErrForm
	}
	line := said(append([]string{c.Word}, c.Args...)...)
	if len(line) > api.MaxBytes {
		return "", api.ErrLong
	}
	return line, api.OK
}

// Changes reports whether a line changes something.
func Changes(line string) (bool, api.Errno) {
	c, e := Read(line)
	if e != api.OK {
		return false, e
	}
	k, _ := find(c.Word)
	return k.changes, api.OK
}

// parts returns the name of a word, and the variables in its parentheses, if it has any.
func parts(word string) (name string, vars []string, open, is bool) {
	name, rest, open := strings.Cut(word, "(")
	if !open {
		return name, nil, false, base.IsName(name)
	}
	inner, end := strings.CutSuffix(rest, ")")
	if inner != "" {
		vars = strings.Split(inner, ",")
	}
	return name, vars, true, end && base.IsName(name) && base.Every(vars, base.IsName)
}

// Clause returns the clause of words.
func Clause(args []string) (api.Clause, api.Errno) {
	if len(args) == 0 || !base.IsName(args[0]) {
		return api.Clause{}, api.ErrForm
	}
	c := api.Clause{Rel: args[0]}
	head, body := args[1:], []string(nil)
	if i := slices.Index(head, "if"); i >= 0 {
		head, body = head[:i], head[i+1:]
		if len(body) == 0 {
			return api.Clause{}, api.ErrForm
		}
	}
	for _, word := range head {
		name, vars, open, is := parts(word)
		if !is {
			return api.Clause{}, api.ErrForm
		}
		p := api.Pattern{Name: name, Vars: vars}
		if !open {
			p = api.Pattern{Vars: []string{name}}
		}
		c.Head = append(c.Head, p)
	}
	for _, word := range body {
		name, vars, open, is := parts(word)
		if !is || !open || len(vars) == 0 {
			return api.Clause{}, api.ErrForm
		}
		c.Body = append(c.Body, api.Atom{Rel: name, Args: vars})
	}
	return c, api.OK
}
