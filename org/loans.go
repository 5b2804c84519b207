package org

import "provost/api"

// Lend lends the roles of a user to another one.
func (o *Org) Lend(from, to string, until int) api.Errno {
	id, err := o.loanOf(from, to)
	if err != api.OK {
		return err
	}
	if from == to || until <= o.now || until > api.MaxTick {
		return api.ErrArg
	}
	if _, is := o.loans.At(id); is {
		return api.ErrTwice
	}
	o.loans.Set(id, until)
	return o.counted(api.OK)
}

// Back ends that.
func (o *Org) Back(from, to string) api.Errno {
	id, err := o.loanOf(from, to)
	if err != api.OK {
		return err
	}
	if !o.loans.Drop(id) {
		return api.ErrLink
	}
	return o.counted(api.OK)
}

// Tick moves the clock.
func (o *Org) Tick(n int) api.Errno {
	if n < 1 {
		return api.ErrArg
	}
	// Not by the sum, which may wrap round.
	if n > api.MaxTick-o.now {
		return api.ErrClock
	}
	o.now += n
	if gone := o.loans.Due(o.now, o.loans.Len()); len(gone) > 0 {
		o.epoch++
	}
	return api.OK
}

// Now is the tick.
func (o *Org) Now() int { return o.now }

// Loans are the loans.
func (o *Org) Loans() []api.Loan {
	var loans []api.Loan
	for id, until := range o.loans.All() {
		from, to := ends(id)
		loans = append(loans, api.Loan{From: o.users.names[from], To: o.users.names[to], Until: until})
	}
	return loans
}

// loanOf is the id of the loan between two known users, whether there is one or not.
func (o *Org) loanOf(from, to string) (int, api.Errno) {
	f, lender := o.users.find(from)
	t, borrower := o.users.find(to)
	if lender == nil || borrower == nil {
		return 0, api.ErrUser
	}
	return loan(f, t), api.OK
}

// borrows: is there a loan to a user from another one?
func (o *Org) borrows(to, from int) bool {
	_, is := o.loans.At(loan(from, to))
	return is
}

// loan is the id that a loan has in the agenda.
func loan(from, to int) int { return from*api.MaxUsers + to }

// ends are the users of a loan.
func ends(id int) (from, to int) { return id / api.MaxUsers, id % api.MaxUsers }
