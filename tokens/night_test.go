package tokens_test

import (
	"fmt"
	"testing"

	"waltzer/api"
	"waltzer/tokens"
)

// P1.2: the account of a night.
func TestAccount(t *testing.T) {
	for _, x := range []struct {
		what string
		l    []api.Deal
		want api.Night
	}{
		{"nothing", nil, api.Night{}},
		{"the example", []api.Deal{sold(5, 0, 0, 1), rode(10, 0, 1, 4), back(20, 1, 0, 1)}, api.Night{Sold: 6, Taken: 4, Returned: 1, Held: 1, Cash: 850}},
		{"two bundles", []api.Deal{sold(0, 0, 0, 1), sold(0, 1, 1, 0)}, api.Night{Sold: 7, Held: 7, Cash: 1200}},
		{"rides with and without a band", []api.Deal{sold(0, 0, 0, 1), rode(1, 0, 0, 1), banded(2, 0, 0), rode(181, 0, 0, 4), rode(182, 0, 0, 3)}, api.Night{Sold: 6, Taken: 4, Held: 2, Cash: 3500}},
		{"a ride with the band of another purse", []api.Deal{sold(0, 0, 0, 1), banded(2, 0, 1), rode(3, 0, 0, 2)}, api.Night{Sold: 6, Taken: 2, Held: 4, Cash: 3500}},
		{"an emptied box", []api.Deal{sold(0, 0, 0, 1), rode(1, 0, 1, 5), emptied(1, 0, 1)}, api.Night{Sold: 6, Taken: 5, Held: 1, Cash: 1000}},
		{"lost and given tokens", []api.Deal{sold(0, 0, 0, 1), gave(1, 0, 1, 4), lost(1, 1, 1), lost(1, 0, 2)}, api.Night{Sold: 6, Held: 3, Lost: 3, Cash: 1000}},
		{"all kinds", busy(), api.Night{Sold: 12, Taken: 7, Returned: 2, Held: 2, Lost: 1, Cash: 4200}},
	} {
		n, e := tokens.Account(example(), x.l)
		same(t, "Account of "+x.what, fmt.Sprint(n, e), fmt.Sprint(x.want, api.OK))
	}
}

// P1.2: what is bought at the price of its refund and given back leaves nothing, in whichever till.
func TestAccountCashZero(t *testing.T) {
	f := with(func(f *api.Fair) { f.Bundles[1].Price, f.Cash[1] = 900, 900 })
	n, e := tokens.Account(f, []api.Deal{sold(0, 0, 0, 1), back(0, 1, 0, 6)})
	same(t, "Account", fmt.Sprint(n, e), fmt.Sprint(api.Night{Sold: 6, Returned: 6}, api.OK))
}

// P1.2: the errors of Account, Audit and Float, with nothing beside them.
func TestNightErrors(t *testing.T) {
	wrong := []api.Deal{sold(0, 0, 0, 1), back(0, 0, 0, 1), sold(0, 5, 0, 0)}
	for _, x := range []struct {
		f api.Fair
		l []api.Deal
		e api.Errno
	}{
		{broken(), wrong, api.ErrFair}, {broken(), make([]api.Deal, 201), api.ErrFair},
		{example(), make([]api.Deal, 201), api.ErrMany}, {example(), wrong, api.ErrDeal},
	} {
		n, e := tokens.Account(x.f, x.l)
		same(t, "Account", fmt.Sprint(n, e), fmt.Sprint(api.Night{}, x.e))
		a, b, c, e := tokens.Audit(x.f, x.l, api.Count{})
		same(t, "Audit", fmt.Sprint(a, b, c, e), fmt.Sprint("[] [] [] ", int(x.e)))
		l, e := tokens.Float(x.f, x.l)
		same(t, "Float", fmt.Sprint(l, e), fmt.Sprint("[] ", int(x.e)))
	}
}

// P1.2: what stands otherwise, place by place.
func TestAudit(t *testing.T) {
	for _, x := range []struct {
		what   string
		change func(c *api.Count)
		want   string
	}{
		{"nothing", func(c *api.Count) {}, "[] [] [] 0"},
		{"stock", func(c *api.Count) { c.Stock[0]++ }, "[0] [] [] 0"},
		{"cash", func(c *api.Count) { c.Cash[1]-- }, "[1] [] [] 0"},
		{"stock and cash", func(c *api.Count) { c.Stock[1]--; c.Cash[1]++ }, "[1] [] [] 0"},
		{"all tills", func(c *api.Count) { c.Stock[1]--; c.Cash[0]++ }, "[0 1] [] [] 0"},
		{"tokens", func(c *api.Count) { c.Purses[1].Tokens++ }, "[] [1] [] 0"},
		{"a band", func(c *api.Count) { c.Purses[0].Until = 0 }, "[] [0] [] 0"},
		{"all purses", func(c *api.Count) { c.Purses = make([]api.Purse, 2) }, "[] [0 1] [] 0"},
		{"a box", func(c *api.Count) { c.Boxes[0]-- }, "[] [] [0] 0"},
		{"all boxes", func(c *api.Count) { c.Boxes[1], c.Boxes[0] = -1, -1 }, "[] [] [0 1] 0"},
		{"lost", func(c *api.Count) { c.Lost = 77 }, "[] [] [] 0"},
		{"fewer stocks", func(c *api.Count) { c.Stock = c.Stock[:1] }, "[] [] [] 1"},
		{"more stocks", func(c *api.Count) { c.Stock = append(c.Stock, 0) }, "[] [] [] 1"},
		{"fewer cash", func(c *api.Count) { c.Cash = nil }, "[] [] [] 1"},
		{"more cash", func(c *api.Count) { c.Cash = append(c.Cash, 0) }, "[] [] [] 1"},
		{"fewer purses", func(c *api.Count) { c.Purses = c.Purses[1:] }, "[] [] [] 1"},
		{"more purses", func(c *api.Count) { c.Purses = append(c.Purses, api.Purse{}) }, "[] [] [] 1"},
		{"fewer boxes", func(c *api.Count) { c.Boxes = nil }, "[] [] [] 1"},
		{"more boxes", func(c *api.Count) { c.Boxes = append(c.Boxes, 0); c.Stock[0]++ }, "[] [] [] 1"},
	} {
		c, _ := tokens.Play(example(), busy())
		x.change(&c)
		tills, purses, boxes, e := tokens.Audit(example(), busy(), c)
		same(t, "Audit with other "+x.what, fmt.Sprint(tills, purses, boxes, e), x.want)
	}
}

// P1.2: without purses and boxes nil lists are as good as empty ones.
func TestAuditNil(t *testing.T) {
	f := with(func(f *api.Fair) { f.Purses, f.Boxes = 0, 0 })
	for _, c := range []api.Count{
		{Stock: f.Stock, Cash: f.Cash},
		{Stock: f.Stock, Cash: f.Cash, Purses: []api.Purse{}, Boxes: []int{}},
	} {
		tills, purses, boxes, e := tokens.Audit(f, nil, c)
		same(t, "Audit", fmt.Sprint(tills, purses, boxes, e), "[] [] [] 0")
	}
}

// P1.2: the least cash of each till.
func TestFloat(t *testing.T) {
	for _, x := range []struct {
		what string
		l    []api.Deal
		want string
	}{
		{"nothing", nil, "[0 0] 0"},
		{"the example", []api.Deal{sold(0, 0, 0, 1), back(0, 1, 0, 2)}, "[0 300] 0"},
		{"what was sold before", []api.Deal{sold(0, 0, 0, 1), back(0, 0, 0, 6)}, "[0 0] 0"},
		{"what is sold later", []api.Deal{sold(0, 0, 0, 1), back(1, 1, 0, 2), sold(2, 1, 0, 1)}, "[0 300] 0"},
		{"some sold before", []api.Deal{sold(0, 0, 0, 1), sold(1, 1, 1, 0), back(1, 1, 0, 6)}, "[0 700] 0"},
		{"the greatest need of several", []api.Deal{sold(0, 0, 0, 1), back(1, 1, 0, 3), sold(2, 1, 0, 1), back(3, 1, 0, 1)}, "[0 450] 0"},
		{"needs that add up", []api.Deal{sold(0, 0, 0, 1), back(1, 1, 0, 3), sold(2, 1, 0, 0), back(3, 1, 0, 4)}, "[0 850] 0"},
		{"a band sold before", []api.Deal{sold(0, 0, 0, 1), banded(1, 1, 1), back(3, 1, 0, 4)}, "[0 0] 0"},
		{"both tills", []api.Deal{sold(0, 0, 0, 1), sold(0, 1, 1, 1), back(3, 0, 1, 6), back(3, 0, 0, 1), back(3, 1, 0, 5), back(3, 1, 0, 0)}, "[] 11"},
		{"a need in both tills", []api.Deal{sold(0, 0, 0, 1), sold(0, 1, 1, 1), back(3, 0, 1, 6), back(3, 0, 0, 2)}, "[200 0] 0"},
	} {
		l, e := tokens.Float(example(), x.l)
		same(t, "Float of "+x.what, fmt.Sprint(l, e), x.want)
	}
}

// P1.2: the cash of the fair does not matter, but it has to be valid.
func TestFloatCash(t *testing.T) {
	l := []api.Deal{sold(0, 0, 0, 1), back(0, 1, 0, 6)}
	poor := with(func(f *api.Fair) { f.Cash[1] = 0 })
	_, e := tokens.CheckDeals(poor, l)
	same(t, "CheckDeals of the poor", e, api.ErrDeal)
	for _, f := range []api.Fair{poor, example(), with(func(f *api.Fair) { f.Cash[1] = 1000000 })} {
		needs, e := tokens.Float(f, l)
		same(t, "Float", fmt.Sprint(needs, e), "[0 900] 0")
	}
	needs, e := tokens.Float(with(func(f *api.Fair) { f.Cash[1] = -1 }), l)
	same(t, "Float of a negative cash", fmt.Sprint(needs, e), "[] 10")
	needs, e = tokens.Float(with(func(f *api.Fair) { f.Cash = nil }), l)
	same(t, "Float without cash", fmt.Sprint(needs, e), "[] 10")
}

// P1.2: at most MaxCents in a till.
func TestFloatMost(t *testing.T) {
	f := api.Fair{
		Purses: 1, Stock: []int{100000, 0}, Cash: []int{0, 0},
		Bundles: []api.Bundle{{Tokens: 1000, Price: 1000000}}, Refund: 1000, Hours: 1,
	}
	l := []api.Deal{sold(0, 0, 0, 0), sold(0, 0, 0, 0), back(0, 1, 0, 1000)}
	needs, e := tokens.Float(f, l)
	same(t, "Float", fmt.Sprint(needs, e), "[0 1000000] 0")
	l[2].N = 1001
	needs, e = tokens.Float(f, l)
	same(t, "Float of more", fmt.Sprint(needs, e), "[] 11")
}
