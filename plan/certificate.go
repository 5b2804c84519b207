package plan

import "provost/api"

// mark is what each certificate begins with: PC.
const mark uint64 = 'P'<<8 | 'C'

// How many bytes the parts of a certificate have.
const (
	markBytes  = 2
	smallBytes = 1 // users, steps, kinds, and counts of all of them
	wordBytes  = 8
	kBytes     = 4
)

// certificate writes down a problem and a plan of it: each number has room enough,
// since solve.Check takes the problem.
func certificate(p api.Problem, plan []int) []byte {
	raw := put(nil, markBytes, mark)
	raw = put(raw, smallBytes, p.Users)
	raw = put(raw, smallBytes, len(p.Who))
	for step, user := range plan {
		raw = put(raw, wordBytes, p.Who[step])
		raw = put(raw, smallBytes, p.Fixed[step]-free)
		raw = put(raw, smallBytes, user)
	}
	raw = put(raw, smallBytes, len(p.Rules))
	for _, r := range p.Rules {
		raw = put(raw, smallBytes, r.Kind)
		raw = put(raw, kBytes, r.K)
		raw = put(raw, smallBytes, len(r.Steps))
		for _, step := range r.Steps {
			raw = put(raw, smallBytes, step)
		}
	}
	return raw
}

// put writes a number down in so many bytes, the highest one first.
func put[N int | uint64](raw []byte, width int, number N) []byte {
	for i := range width {
		raw = append(raw, byte(number>>(8*(width-1-i))))
	}
	return raw
}

// reader reads a certificate from its beginning on.
type reader struct {
	rest  []byte
	wrong bool
}

// certificate is what stands there; r.wrong says whether it is to be trusted.
func (r *reader) certificate() (p api.Problem, plan []int) {
	if r.take(markBytes) != mark {
		r.wrong = true
	}
	p.Users = r.small()
	for range r.small() {
		p.Who = append(p.Who, r.take(wordBytes))
		p.Fixed = append(p.Fixed, r.small()+free)
		plan = append(plan, r.small())
	}
	for range r.small() {
		p.Rules = append(p.Rules, r.rule())
	}
	return p, plan
}

func (r *reader) rule() api.Rule {
	x := api.Rule{Kind: r.small(), K: int(r.take(kBytes))}
	for range r.small() {
		x.Steps = append(x.Steps, r.small())
	}
	return x
}

func (r *reader) small() int { return int(r.take(smallBytes)) }

// take is the next number, of so many bytes. Where these are not there it is 0, and
// so is every number behind it: no count can then ask for more.
func (r *reader) take(width int) uint64 {
	if len(r.rest) < width {
		r.rest, r.wrong = nil, true
		return 0
	}
	var number uint64
	for i := range width {
		number = number<<8 | uint64(r.rest[i])
	}
	r.rest = r.rest[width:]
	return number
}
