package conf

import (
	"slices"

	"wheelhouse/api"
	"wheelhouse/brk"
	"wheelhouse/digit"
	"wheelhouse/fault"
	"wheelhouse/lex"
	"wheelhouse/tree"
	"wheelhouse/word"
)

// loader puts statements, one by one, together as a configuration.
type loader struct {
	conf  api.Conf
	usual api.Console
	names map[name]struct{}
}

// name is what a console, a group or a user is called: each kind has names of its own.
type name struct {
	key  string // That of its statement.
	text string
}

// Load is the configuration of a text.
func Load(s string) (api.Conf, error) {
	statements, err := tree.Read(s)
	if err != nil {
		return api.Conf{}, err
	}
	l := newLoader()
	for _, n := range statements {
		if err := l.take(n); err != nil {
			return api.Conf{}, err
		}
	}
	return l.conf, nil
}

// newLoader is one that took no statement yet.
func newLoader() *loader {
	return &loader{usual: Usual(), names: map[name]struct{}{}}
}

// take takes the next statement.
func (l *loader) take(n tree.Node) error {
	switch n.Key {
	case keyConsole:
		return l.takeConsole(n)
	case keyDefault:
		return l.takeDefault(n)
	}
	return wrong(n, l.takePlain(n))
}

// wrong is the error of a statement, or a setting, that has a code; of OK there is none.
func wrong(n tree.Node, c api.Code) error {
	return fault.New(c, n.Line, "")
}

// takeConsole takes a console. It is put to the others only when all is said of it: no console is like itself.
func (l *loader) takeConsole(n tree.Node) error {
	if !n.Block || len(n.Args) != 1 {
		return wrong(n, api.ErrForm)
	}
	called := n.Args[0]
	if code := l.call(keyConsole, called, len(l.conf.Consoles)); code != api.OK {
		return wrong(n, code)
	}
	x := l.usual
	x.Name = called
	if err := l.setAll(&x, n.List); err != nil {
		return err
	}
	l.conf.Consoles = append(l.conf.Consoles, x)
	return nil
}

// takeDefault takes what is usual from here on.
func (l *loader) takeDefault(n tree.Node) error {
	if !n.Block || len(n.Args) != 0 {
		return wrong(n, api.ErrForm)
	}
	return l.setAll(&l.usual, n.List)
}

// takePlain takes a statement that has no block.
func (l *loader) takePlain(n tree.Node) api.Code {
	if n.Block {
		return api.ErrForm
	}
	switch n.Key {
	case keyGroup:
		return l.takeGroup(n.Args)
	case keyUser:
		return l.takeUser(n.Args)
	case keyAccess:
		return l.takeAccess(n.Args)
	case keyBreak:
		return l.takeBreak(n.Args)
	}
	return api.ErrForm
}

// takeGroup takes a group.
func (l *loader) takeGroup(args []string) api.Code {
	if len(args) < 2 || !arePatterns(args[1:]) {
		return api.ErrForm
	}
	g := api.Group{Name: args[0], Pats: args[1:]}
	code := l.call(keyGroup, g.Name, len(l.conf.Groups))
	if code == api.OK {
		l.conf.Groups = append(l.conf.Groups, g)
	}
	return code
}

// takeUser takes a user.
func (l *loader) takeUser(args []string) api.Code {
	if len(args) != 2 || !lex.Wordy(args[1]) || len(args[1]) > api.MaxName {
		return api.ErrForm
	}
	u := api.User{Name: args[0], Pass: args[1]}
	code := l.call(keyUser, u.Name, len(l.conf.Users))
	if code == api.OK {
		l.conf.Users = append(l.conf.Users, u)
	}
	return code
}

// call gives a name to the next console, group or user, as the key says; of these there are so many already.
func (l *loader) call(key, text string, have int) api.Code {
	if !word.Is(text) {
		return api.ErrForm
	}
	called := name{key, text}
	if _, taken := l.names[called]; taken {
		return api.ErrTwice
	}
	if have >= api.MaxMany {
		return api.ErrLimit
	}
	l.names[called] = struct{}{}
	return api.OK
}

// takeAccess takes what users may do.
func (l *loader) takeAccess(args []string) api.Code {
	if len(args) != 3 || !arePatterns(args[:2]) {
		return api.ErrForm
	}
	level := slices.Index(levels(), args[2])
	switch {
	case level < 0:
		return api.ErrForm
	case len(l.conf.Access) >= api.MaxMany:
		return api.ErrLimit
	}
	l.conf.Access = append(l.conf.Access, api.Access{Console: args[0], User: args[1], Level: level})
	return api.OK
}

// arePatterns tells whether all of these are patterns.
func arePatterns(l []string) bool {
	return !slices.ContainsFunc(l, func(s string) bool { return !word.Fits(s) })
}

// takeBreak takes a break sequence.
func (l *loader) takeBreak(args []string) api.Code {
	if len(args) != 2 {
		return api.ErrForm
	}
	n, text := 0, args[1]
	if code := setNumber(&n, args[0], 1, len(l.conf.Breaks)-1); code != api.OK {
		return code
	}
	if _, code := brk.Read(text); code != api.OK {
		return code
	}
	switch {
	case text == "":
		return api.ErrForm
	case l.conf.Breaks[n] != "":
		return api.ErrTwice
	}
	l.conf.Breaks[n] = text
	return api.OK
}

// setAll takes the settings of a block, one by one.
func (l *loader) setAll(x *api.Console, block []tree.Node) error {
	for _, n := range block {
		if err := wrong(n, l.set(x, n)); err != nil {
			return err
		}
	}
	return nil
}

// set takes a setting.
func (l *loader) set(x *api.Console, n tree.Node) api.Code {
	switch {
	case n.Block:
		return api.ErrForm
	case n.Key == keyRetry:
		return setRetry(x, n.Args)
	case len(n.Args) != 1:
		return api.ErrForm
	}
	arg := n.Args[0]
	switch n.Key {
	case keyKind:
		return setKind(x, arg)
	case keyLines:
		return setNumber(&x.Lines, arg, 1, 1024)
	case keyBytes:
		return setNumber(&x.Bytes, arg, 1, 65536)
	case keyGens:
		return setNumber(&x.Gens, arg, 1, 16)
	case keySize:
		return setNumber(&x.Size, arg, 64, 1<<20)
	case keyInit:
		return setInit(x, arg)
	case keyLike:
		return l.setLike(x, arg)
	}
	return api.ErrForm
}

// setKind takes a kind.
func setKind(x *api.Console, s string) api.Code {
	place := slices.Index(kinds(), s)
	if place < 0 {
		return api.ErrForm
	}
	x.Kind = api.Serial + place
	return api.OK
}

// setNumber takes a number that has bounds.
func setNumber(to *int, s string, low, high int) api.Code {
	n, code := digit.Read(s)
	switch {
	case code != api.OK:
		return code
	case !within(n, low, high):
		return api.ErrRange
	}
	*to = n
	return api.OK
}

// within tells whether a number is not beyond its bounds.
func within(n, low, high int) bool {
	return n >= low && n <= high
}

// setRetry takes how long is waited ahead of another attempt. All are read ahead of their bounds: what is no number is told first.
func setRetry(x *api.Console, args []string) api.Code {
	n, code := numbers(args)
	switch {
	case code != api.OK:
		return code
	case len(n) != 3:
		return api.ErrForm
	case !within(n[0], 1, 3600) || !within(n[1], n[0], 86400) || !within(n[2], 0, 3600):
		return api.ErrRange
	}
	x.Base, x.Cap, x.Jitter = n[0], n[1], n[2]
	return api.OK
}

// numbers are the numbers of texts.
func numbers(l []string) ([]int, api.Code) {
	var found []int
	for _, s := range l {
		n, code := digit.Read(s)
		if code != api.OK {
			return nil, code
		}
		found = append(found, n)
	}
	return found, api.OK
}

// setInit takes what a console is sent when it comes up.
func setInit(x *api.Console, s string) api.Code {
	_, code := brk.Read(s)
	if code == api.OK {
		x.Init = s
	}
	return code
}

// setLike takes all that another console has, but for its name.
func (l *loader) setLike(x *api.Console, s string) api.Code {
	place := Find(l.conf, s)
	if place < 0 {
		return api.ErrNone
	}
	called := x.Name
	*x = l.conf.Consoles[place]
	x.Name = called
	return api.OK
}
