package spec

import (
	"strings"

	"pushmill/api"
	"pushmill/rex"
)

const (
	lineEnd   = "\n"
	blank     = " "
	tokenSign = "token "
	skipSign  = "skip "
	ruleSign  = "rule "
	headEnd   = " ="
)

// Write is the text of s: P51.
func Write(s api.Spec) (string, api.Errno) {
	if err := Check(s); err != api.OK {
		return "", err
	}
	var b strings.Builder
	for _, w := range s.Words {
		source, err := rex.Print(w.Rex)
		if err != api.OK {
			return "", err
		}
		b.WriteString(wordSign(w.Name) + source + lineEnd)
	}
	for _, r := range s.Rules {
		b.WriteString(ruleSign + r.Head + headEnd)
		for _, name := range r.Body {
			b.WriteString(blank + name)
		}
		b.WriteString(lineEnd)
	}
	return b.String(), api.OK
}

// wordSign is what stands ahead of the regular expression of a word with that name, or with none.
func wordSign(name string) string {
	if name == "" {
		return skipSign
	}
	return tokenSign + name + blank
}

// Read is the Spec that text is the text of: P51.
func Read(text string) (api.Spec, int, api.Errno) {
	if len(text) > api.MaxText {
		return api.Spec{}, 0, api.ErrLarge
	}
	var s api.Spec
	for n, rest := 1, text; rest != ""; n++ {
		line, behind, ended := strings.Cut(rest, lineEnd)
		if !ended {
			return api.Spec{}, n, api.ErrSyntax
		}
		if err := addLine(&s, line); err != api.OK {
			return api.Spec{}, n, err
		}
		rest = behind
	}
	if err := Check(s); err != api.OK {
		return api.Spec{}, 0, err
	}
	return s, 0, api.OK
}

// addLine puts into s what a line says.
func addLine(s *api.Spec, line string) api.Errno {
	if rule, is := readRule(line); is {
		s.Rules = append(s.Rules, rule)
		return api.OK
	}
	name, source, is := cutWord(line)
	if !is || len(s.Rules) > 0 {
		return api.ErrSyntax
	}
	r, _, err := rex.Parse(source)
	s.Words = append(s.Words, api.Word{Name: name, Rex: r})
	return err
}

// cutWord has the name of a word's line, and what stands where its regular expression does, whatever it is.
func cutWord(line string) (name, source string, is bool) {
	if source, is = strings.CutPrefix(line, skipSign); is {
		return "", source, true
	}
	rest, isToken := strings.CutPrefix(line, tokenSign)
	name, source, found := strings.Cut(rest, blank)
	return strings.Clone(name), source, isToken && found && isName(name)
}

func readRule(line string) (api.Rule, bool) {
	rest, isRule := strings.CutPrefix(line, ruleSign)
	head, behind, found := strings.Cut(rest, headEnd)
	if !isRule || !found || !isName(head) {
		return api.Rule{}, false
	}
	body, ok := readBody(behind)
	return api.Rule{Head: strings.Clone(head), Body: body}, ok
}

// readBody reads names, each with a blank ahead of it.
func readBody(s string) ([]string, bool) {
	parts := strings.Split(s, blank)
	if parts[0] != "" { // something stands ahead of the first blank
		return nil, false
	}
	var body []string
	for _, part := range parts[1:] {
		if !isName(part) {
			return nil, false
		}
		body = append(body, strings.Clone(part))
	}
	return body, true
}
