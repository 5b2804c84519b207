package desk

import (
	"slices"

	"provost/api"
	"provost/lex"
)

// The calls that change the organisation.

func (d *Desk) tick(c api.Call) api.Reply { return api.Reply{Err: d.org.Tick(c.N)} }

func (d *Desk) user(c api.Call) api.Reply {
	number, why := d.org.User(c.A)
	return api.Reply{Err: why, N: number}
}

func (d *Desk) noUser(c api.Call) api.Reply { return api.Reply{Err: d.org.NoUser(c.A)} }

func (d *Desk) role(c api.Call) api.Reply {
	number, why := d.org.Role(c.A)
	d.roles[c.A] = struct{}{}
	return api.Reply{Err: why, N: number}
}

func (d *Desk) noRole(c api.Call) api.Reply { return api.Reply{Err: d.org.NoRole(c.A)} }

func (d *Desk) join(c api.Call) api.Errno   { return d.org.Join(c.A, c.B) }
func (d *Desk) leave(c api.Call) api.Errno  { return d.org.Leave(c.A, c.B) }
func (d *Desk) over(c api.Call) api.Errno   { return d.org.Over(c.A, c.B) }
func (d *Desk) noOver(c api.Call) api.Errno { return d.org.NoOver(c.A, c.B) }
func (d *Desk) grant(c api.Call) api.Errno  { return d.org.Grant(c.A, c.B) }
func (d *Desk) revoke(c api.Call) api.Errno { return d.org.Revoke(c.A, c.B) }
func (d *Desk) bar(c api.Call) api.Errno    { return d.org.Bar(c.A, c.B) }
func (d *Desk) unbar(c api.Call) api.Errno  { return d.org.Unbar(c.A, c.B) }
func (d *Desk) back(c api.Call) api.Errno   { return d.org.Back(c.A, c.B) }
func (d *Desk) rest(c api.Call) api.Errno   { return d.org.Rest(c.A) }
func (d *Desk) wake(c api.Call) api.Errno   { return d.org.Wake(c.A) }

func (d *Desk) lend(c api.Call) api.Errno {
	until := 0 // no loan is until then, so that Lend refuses it in its place
	if d.errTick(c) == api.OK {
		until = d.org.Now() + c.N
	}
	return d.org.Lend(c.A, c.B, until)
}

// errTick: can the clock not move on by N?
func (d *Desk) errTick(c api.Call) api.Errno {
	switch {
	case c.N < 1:
		return api.ErrArg
	case c.N > api.MaxTick-d.org.Now():
		return api.ErrClock
	}
	return api.OK
}

func (d *Desk) errNewUser(c api.Call) api.Errno {
	_, numbered := d.org.Number(c.A)
	return errNew(c.A, d.errUser(c) == api.OK, numbered, d.org.Size() < api.MaxUsers)
}

func (d *Desk) errNewRole(c api.Call) api.Errno {
	_, numbered := d.roles[c.A]
	return errNew(c.A, d.errRole(c) == api.OK, numbered, len(d.roles) < api.MaxRoles)
}

// errNew: can a name not be made known?
func errNew(name string, known, numbered, room bool) api.Errno {
	switch {
	case !lex.Legal(name):
		return api.ErrName
	case known:
		return api.ErrTwice
	case !numbered && !room:
		return api.ErrTooBig
	}
	return api.OK
}

// errBack: can there be no loan that ends? A loan that was turned back could not be
// laid again: it would come behind others until the same tick.
func (d *Desk) errBack(c api.Call) api.Errno {
	_, lender := d.org.Find(c.A)
	_, borrower := d.org.Find(c.B)
	if !lender || !borrower {
		return api.ErrUser
	}
	between := func(l api.Loan) bool { return l.From == c.A && l.To == c.B }
	return when(!slices.ContainsFunc(d.org.Loans(), between), api.ErrLink)
}

// errUser: is no user A known?
func (d *Desk) errUser(c api.Call) api.Errno {
	_, known := d.org.Find(c.A)
	return when(!known, api.ErrUser)
}

// errNobody: has no user, known or not, the name A?
func (d *Desk) errNobody(c api.Call) api.Errno {
	_, numbered := d.org.Number(c.A)
	return when(!numbered, api.ErrUser)
}

// errRole: is no role A known?
func (d *Desk) errRole(c api.Call) api.Errno {
	return when(!slices.Contains(d.org.Roles(), c.A), api.ErrRole)
}

// when is the error where something is wrong.
func when(wrong bool, why api.Errno) api.Errno {
	if wrong {
		return why
	}
	return api.OK
}
