package pipe

import (
	"slices"

	"driftnet/api"
	"driftnet/filter"
	"driftnet/forms"
	"driftnet/jscan"
	"driftnet/labels"
	"driftnet/latest"
	"driftnet/logfmt"
	"driftnet/pike"
)

const (
	errorName = "__error__"
	extracted = "_extracted"
)

// entry is an entry in the pipeline.
type entry struct {
	Out
	stream []api.Label
}

// newEntry returns the entry with which a pipeline starts; labels that are not ordered count as none.
func newEntry(stream []api.Label, line string) *entry {
	// Without returns nothing for labels that are not ordered.
	ordered := labels.Without(stream, nil)
	return &entry{Out: Out{Line: line, Labels: labels.Without(ordered, nil)}, stream: ordered}
}

// mark sets the label __error__, unless there is one.
func (x *entry) mark(value string) {
	if labels.Get(x.Labels, errorName) == "" {
		x.set(errorName, value)
	}
}

func (x *entry) set(name, value string) {
	x.Labels = labels.Set(x.Labels, name, value)
}

// add adds the labels of a parser, each of which replaces the one with its name.
func (x *entry) add(l ...api.Label) {
	all := slices.Clone(x.Labels)
	for _, label := range l {
		if label.Name == errorName {
			continue
		}
		if labels.Get(x.stream, label.Name) != "" {
			label.Name = labels.Clean(label.Name + extracted)
		}
		all = append(all, label)
	}
	x.Labels = latest.Of(all)
}

// stage changes an entry; false if it drops it.
type stage interface {
	apply(x *entry) bool
}

// lineFilter keeps the entries whose lines pass.
type lineFilter struct{ *filter.Line }

func (s lineFilter) apply(x *entry) bool {
	return s.Fits(x.Line)
}

// condFilter keeps the entries whose labels pass.
type condFilter struct{ *filter.Cond }

func (s condFilter) apply(x *entry) bool {
	fits, isFaulty := s.Fits(x.Labels)
	if isFaulty {
		x.mark("CondErr")
	}
	return fits
}

// parser returns the labels of a line, if it has the form.
type parser func(line string) ([]api.Label, bool)

// parserStage adds the labels of its parser; fault is the mark of a line that does not have the form, if it gets one.
type parserStage struct {
	parser
	fault string
}

func (s parserStage) apply(x *entry) bool {
	l, ok := s.parser(x.Line)
	switch {
	case ok:
		x.add(l...)
	case s.fault != "":
		x.mark(s.fault)
	}
	return true
}

// namedParsers returns the parsers that need no text, by the kinds of their stages.
func namedParsers() map[int]parserStage {
	return map[int]parserStage{
		api.StageLogfmt: {logfmt.Parse, "LogfmtErr"},
		api.StageJSON:   {jscan.Flatten, "JSONErr"},
	}
}

// groupParser makes a parser of an expression with named groups.
func groupParser(re *pike.Re) parser {
	names := re.Groups()
	return func(line string) ([]api.Label, bool) {
		parts, ok := re.Parts(line)
		if !ok {
			return nil, false
		}
		var l []api.Label
		for i, name := range names {
			if part := parts[i+1]; name != "" && part.From >= 0 {
				l = append(l, api.Label{Name: name, Value: line[part.From:part.To]})
			}
		}
		return l, true
	}
}

// lineFormat replaces the line.
type lineFormat struct{ *forms.Form }

func (s lineFormat) apply(x *entry) bool {
	x.Line = s.Run(x.Labels, x.Line)
	return true
}

// labelFormat replaces a label.
type labelFormat struct {
	*forms.Form
	name string
}

func (s labelFormat) apply(x *entry) bool {
	x.set(s.name, s.Run(x.Labels, x.Line))
	return true
}

// drop removes a label.
type drop struct{ name string }

func (s drop) apply(x *entry) bool {
	x.set(s.name, "")
	return true
}

// unwrap takes a label as the number.
type unwrap struct {
	read func(string) (api.Rat, api.Errno)
	name string
}

func (s unwrap) apply(x *entry) bool {
	x.V, x.Has = api.Rat{}, false
	value := labels.Get(x.Labels, s.name)
	if value == "" {
		return true
	}
	x.set(s.name, "")
	v, e := s.read(value)
	if e != api.OK {
		x.mark("UnwrapErr")
		return true
	}
	x.V, x.Has = v, true
	return true
}
