package org

// Size is how many users' numbers there are.
func (o *Org) Size() int { return len(o.users.names) }

// Find is the number of a known user.
func (o *Org) Find(user string) (int, bool) {
	number, u := o.users.find(user)
	return number, u != nil
}

// Number is the number of a name, of a known user or not.
func (o *Org) Number(name string) (int, bool) {
	number, is := o.users.numbers[name]
	return number, is
}

// Name is the name of a user's number, and whether it is a known one's.
func (o *Org) Name(number int) (string, bool) {
	if number < 0 || number >= o.Size() {
		return "", false
	}
	return o.users.names[number], o.users.known[number] != nil
}

// Users are the known users.
func (o *Org) Users() []string { return o.users.list(o.users.all()) }

// Roles are the known roles.
func (o *Org) Roles() []string { return o.roles.list(o.roles.all()) }

// Held are the roles that a user has now.
func (o *Org) Held(user string) []string {
	number, u := o.users.find(user)
	if u == nil {
		return nil
	}
	return o.roles.list(o.held(number, u))
}

// Joined are the roles that a user was given.
func (o *Org) Joined(user string) []string {
	_, u := o.users.find(user)
	if u == nil {
		return nil
	}
	return o.roles.list(u.given)
}

// Juniors are the roles right below a role.
func (o *Org) Juniors(role string) []string {
	number, r := o.roles.find(role)
	if r == nil {
		return nil
	}
	return o.roles.list(o.roles.linked(number, o.ranks.Has))
}

// Duties are the duties that a role was granted.
func (o *Org) Duties(role string) []string {
	_, r := o.roles.find(role)
	if r == nil {
		return nil
	}
	return r.grants.list()
}

// Bars are the duties from which a user is kept.
func (o *Org) Bars(user string) []string {
	_, u := o.users.find(user)
	if u == nil {
		return nil
	}
	return u.bars.list()
}

// Rests: does the user rest?
func (o *Org) Rests(user string) bool {
	_, u := o.users.find(user)
	return u != nil && u.rests
}

// Can: may the user do the duty now?
func (o *Org) Can(user, duty string) bool {
	number, u := o.users.find(user)
	return u != nil && o.may(number, u, duty, o.granted(duty))
}

// Who are the users who may, as a word of bits.
func (o *Org) Who(duty string) uint64 {
	var who uint64
	granted := o.granted(duty)
	for number, u := range o.users.known {
		if o.may(number, u, duty, granted) {
			who |= only(number)
		}
	}
	return who
}

// may: may a known user do a duty that these roles were granted?
func (o *Org) may(number int, u *user, duty string, granted uint64) bool {
	return !u.rests && !u.bars.has(duty) && o.held(number, u)&granted != 0
}

// granted is the set of the roles that were granted a duty.
func (o *Org) granted(duty string) uint64 {
	var s uint64
	for number, r := range o.roles.known {
		if r.grants.has(duty) {
			s |= only(number)
		}
	}
	return s
}

// held is the set of the roles that a known user has now. A lender's own roles
// are added as they were given, so that what the lender borrows is not among them.
func (o *Org) held(number int, u *user) uint64 {
	given := u.given
	for lenders := o.users.linked(number, o.borrows); lenders != 0; lenders &= lenders - 1 {
		given |= o.users.known[lowest(lenders)].given
	}
	return o.ranks.Spread(given)
}
