package braid_test

import (
	"regexp"
	"strconv"
	"strings"

	"braid/api"
)

// The form of streams once more, by expressions: what Check answers is held
// against it.

const (
	refForm   = `([a-z0-9-]+(?:/[a-z0-9-]+)*)`
	pathForm  = `([A-Za-z0-9._-]{1,12}(?:/[A-Za-z0-9._-]{1,12}){0,5})`
	markForm  = `:[1-9][0-9]{0,2}`
	whichForm = `(?:` + markForm + `|` + refForm + `)`
	dataForm  = `data (0|[1-9][0-9]?|1[0-9][0-9]|200)\n`
	nameForm  = `[A-Za-z0-9](?:[A-Za-z0-9 ]{0,18}[A-Za-z0-9])?`
	mailForm  = `[A-Za-z0-9.@-]{1,20}`
	timeForm  = `(?:0|[1-9][0-9]{0,9})`
)

func form(text string) *regexp.Regexp { return regexp.MustCompile(`\A` + text) }

var (
	markLine   = `mark ` + markForm + `\n`
	blobHead   = form(`blob\n` + markLine + dataForm)
	commitHead = form(`commit ` + refForm + `\n` + markLine + `author ` + nameForm + ` <` + mailForm + `> ` + timeForm + `\n` + dataForm)
	tagHead    = form(`tag ` + refForm + `\nfrom ` + whichForm + `\n` + dataForm)
	resetWhole = form(`reset ` + refForm + `\n(?:from ` + whichForm + `\n)?\n`)
	parents    = form(`(?:from ` + whichForm + `\n)?(?:merge ` + whichForm + `\n(?:merge ` + whichForm + `\n)?(?:merge ` + whichForm + `\n)?)?`)
	plain      = form(`(?:M 100(?:644|755) ` + markForm + ` ` + pathForm + `|D ` + pathForm + `|[CR] ` + pathForm + ` ` + pathForm + `|deleteall)\n`)
	inlined    = form(`M 100(?:644|755) inline ` + pathForm + `\n` + dataForm)
	dots       = regexp.MustCompile(`(?:\A|/)\.\.?(?:/|\z)`)
)

// match cuts an expression off the front. Each group that is no length is a
// ref or a path: what the expression can't say of these is asked here.
func match(e *regexp.Regexp, text string, most int, length bool) (string, bool) {
	groups := e.FindStringSubmatch(text)
	if groups == nil {
		return "", false
	}
	text = text[len(groups[0]):]
	last := len(groups)
	if length {
		last--
	}
	for _, g := range groups[1:last] {
		if len(g) > most || most == api.MaxPath && dots.MatchString(g) {
			return "", false
		}
	}
	if !length {
		return text, true
	}
	n, _ := strconv.Atoi(groups[last])
	if len(text) < n+1 || text[n] != '\n' {
		return "", false
	}
	return text[n+1:], true
}

func oracleChanges(text string) (string, bool) {
	for n := 0; n <= api.MaxChanges; n++ {
		if strings.HasPrefix(text, "\n") {
			return text[1:], true
		}
		rest, ok := match(plain, text, api.MaxPath, false)
		if !ok {
			rest, ok = match(inlined, text, api.MaxPath, true)
		}
		if !ok {
			return "", false
		}
		text = rest
	}
	return "", false
}

func oracleCommand(text string) (string, bool) {
	if rest, ok := match(blobHead, text, 0, true); ok {
		return rest, true
	}
	if rest, ok := match(tagHead, text, api.MaxRef, true); ok {
		return rest, true
	}
	if rest, ok := match(resetWhole, text, api.MaxRef, false); ok {
		return rest, true
	}
	rest, ok := match(commitHead, text, api.MaxRef, true)
	if ok {
		rest, ok = match(parents, rest, api.MaxRef, false)
	}
	if ok {
		rest, ok = oracleChanges(rest)
	}
	return rest, ok
}

func oracle(text string) (int, api.Errno) {
	if len(text) > api.MaxStream {
		return 0, api.ErrLimit
	}
	n := 0
	for !strings.HasPrefix(text, "done\n") {
		rest, ok := oracleCommand(text)
		n++
		if !ok {
			return n, api.ErrForm
		}
		text = rest
	}
	if text != "done\n" {
		return n + 2, api.ErrForm
	}
	if n > api.MaxCommands {
		return 0, api.ErrLimit
	}
	return n, api.OK
}
