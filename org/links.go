package org

import "provost/api"

// Join gives a user a role.
func (o *Org) Join(user, role string) api.Errno {
	u, number, err := o.pair(user, role)
	if err != api.OK {
		return err
	}
	if in(number, u.given) {
		return api.ErrTwice
	}
	u.given |= only(number)
	return o.counted(api.OK)
}

// Leave takes it.
func (o *Org) Leave(user, role string) api.Errno {
	u, number, err := o.pair(user, role)
	if err != api.OK {
		return err
	}
	if !in(number, u.given) {
		return api.ErrLink
	}
	u.given &^= only(number)
	return o.counted(api.OK)
}

// Over lays a role over another one.
func (o *Org) Over(senior, junior string) api.Errno {
	return o.between(senior, junior, o.ranks.Over)
}

// NoOver takes that away.
func (o *Org) NoOver(senior, junior string) api.Errno {
	return o.between(senior, junior, o.ranks.Cut)
}

// Grant gives a role a duty.
func (o *Org) Grant(role, duty string) api.Errno {
	_, r := o.roles.find(role)
	if r == nil {
		return api.ErrRole
	}
	return o.counted(r.grants.add(duty))
}

// Revoke takes it.
func (o *Org) Revoke(role, duty string) api.Errno {
	_, r := o.roles.find(role)
	if r == nil {
		return api.ErrRole
	}
	return o.counted(r.grants.take(duty))
}

// Bar keeps a user from a duty.
func (o *Org) Bar(user, duty string) api.Errno {
	_, u := o.users.find(user)
	if u == nil {
		return api.ErrUser
	}
	return o.counted(u.bars.add(duty))
}

// Unbar ends that.
func (o *Org) Unbar(user, duty string) api.Errno {
	_, u := o.users.find(user)
	if u == nil {
		return api.ErrUser
	}
	return o.counted(u.bars.take(duty))
}

// Rest lets a user do nothing.
func (o *Org) Rest(user string) api.Errno {
	_, u := o.users.find(user)
	if u == nil {
		return api.ErrUser
	}
	if u.rests {
		return api.ErrTwice
	}
	u.rests = true
	return o.counted(api.OK)
}

// Wake ends that.
func (o *Org) Wake(user string) api.Errno {
	_, u := o.users.find(user)
	if u == nil {
		return api.ErrUser
	}
	if !u.rests {
		return api.ErrLink
	}
	u.rests = false
	return o.counted(api.OK)
}

// pair is a known user and a known role's number, or which of them is none.
func (o *Org) pair(userName, roleName string) (*user, int, api.Errno) {
	_, u := o.users.find(userName)
	if u == nil {
		return nil, 0, api.ErrUser
	}
	number, r := o.roles.find(roleName)
	if r == nil {
		return nil, 0, api.ErrRole
	}
	return u, number, api.OK
}

// between does something with the numbers of two known roles.
func (o *Org) between(senior, junior string, do func(senior, junior int) api.Errno) api.Errno {
	s, over := o.roles.find(senior)
	j, under := o.roles.find(junior)
	if over == nil || under == nil {
		return api.ErrRole
	}
	return o.counted(do(s, j))
}
