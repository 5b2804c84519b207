/- SolveOwn: its calls on one problem lent. -/
import Derived.Test.YtkmglmfdcmcobaaGreatDoorJ22
import Derived.Test.YtkmglmfdcmcobaaGreatDoorJ24
import Derived.Test.YtkmglmfdcmcobaaGreatDoorJ26
import Derived.Test.YtkmglmfdcmcobaaGreatDoorJ36
import Derived.Test.YtkmglmfdcmcobaaGreatDoorJ37
namespace Go.Proofs.YtkmglmfdcmcobaaGreatDoor.S
open Go.RowKit Go.Shelf
/-- A plan that was told. -/
structure Lq (l : List Int) : Prop where
  len : l.length ≤ 1000
  wf : ∀ z ∈ l, (Lit.int .i64 z).wf = true
theorem ls_fine {Q : Pb} {l : List Int} (h : LsP Q (some l)) (hk : Pok Q) : Lq l := ⟨by have := (holP_of h.1).2.1; have := hk.w; omega, plan_wf h.1⟩
theorem lq_nil : Lq [] := ⟨Nat.zero_le _, fun z hz => by cases hz⟩
section
variable {V0 W : World} {R : World → Prop} {Q : Pb} {qw qf qr : Value} {g gs a b c bb p mm gx : Nat} {u : Int} {xw xf xr ba bc bd : Value} {Lw : List Nat} {Lf : List Int} {PP : List (Rl × Value)} {E H : List (Value × List Int)} {F : Nat → Prop} {l : List Int} {v : Value}
theorem Zx.hi (h : Zx V0 R bb p mm xw xf xr Lw Lf PP E H gx u ba bc bd W) : V0.heap.size ≤ gx := by
  obtain ⟨_, _, _, _, _, _, _, _, h4⟩ := h.z
  exact (h4.fr gx rfl).2.2.2.2.1
theorem Z2.dropE (h : Z2 V0 R bb p mm xw xf xr Lw Lf PP E H F W) : Z2 V0 R bb p mm xw xf xr Lw Lf PP [] H F W := by
  obtain ⟨tB, tL, tU, m, k, h1, h2, h3, h4⟩ := h
  exact ⟨tB, tL, tU, m, k, h1, h2, h3, h4.row, h4.un, h4.inn, h4.w, h4.wt, h4.f, h4.ft, (fun q hq => by cases hq), h4.h, h4.fr⟩
theorem Zx.dropE (h : Zx V0 R bb p mm xw xf xr Lw Lf PP E H gx u ba bc bd W) : Zx V0 R bb p mm xw xf xr Lw Lf PP [] H gx u ba bc bd W := ⟨h.z.dropE, h.q⟩
theorem xLeast (h : Sb V0 Q qw qf qr g gs) (hz : Zx V0 (Rs V0 gs a b c) bb p mm xw xf xr Q.who Q.fixed PP E H gx u ba bc bd W) (hPP : PP.map Prod.fst = Q.rules) (hk : Pok Q) (hl : a ≤ 20000000000000 ∧ b ≤ 20000000000000 ∧ c ≤ 20000000000000) :
    Calls Tryz.prog 10 #[.pointer (some ⟨gs, 0, none⟩), pbV Q xw xf xr] W fun e w' => ∃ a' b' c' v l ok, e = .returned (.tuple #[v, .bool ok]) ∧ Hid (Lq l) ∧ Hid (a' ≤ a + 2000000000000 ∧ b' ≤ b + 2000000000000 ∧ c' ≤ c + 2000000000000) ∧ Hid (Z2 V0 (Rs V0 gs a' b' c') bb p mm xw xf xr Q.who Q.fixed PP E H (fun g => g = gx ∨ (W.heap.size ≤ g ∧ g < w'.heap.size)) w') ∧ Hid (QAt w' gx u ba bc bd) ∧ Hid (w'.ownsRow W.heap.size 3 1 v l.length (cellsI l)) := by
  obtain ⟨p1, p2, p3⟩ := h.at hz.z
  have hgl := h.gl
  have hgx := hz.hi
  refine (leastPF Q xw xf xr gs a b c W (hz.pv rfl rfl hPP.symm) hk hz.z.r.2 h.hG p3 (fun ad n c e => by have := hz.z.low ad n c e; omega) (by omega) (by omega) (by omega)).mono ?_
  rintro e w' ⟨⟨a', b', c', g1, g2⟩, hf, hr⟩
  have hle := g2.out.le (by decide)
  have hz' := hz.z.solv h hf.out g1.out
  have hq := hz.q.of (hf.out.block gx hz.q.lt (by omega) (by omega))
  have hl3 : a' ≤ a + 2000000000000 ∧ b' ≤ b + 2000000000000 ∧ c' ≤ c + 2000000000000 := ⟨by omega, by omega, by omega⟩
  rcases hr with ⟨rfl, _⟩ | ⟨v, l, rfl, hl, ho⟩
  · exact ⟨a', b', c', _, [], false, rfl, lq_nil, hl3, hz', hq, World.ownsRow_nil _ _ _ _⟩
  · exact ⟨a', b', c', v, l, true, rfl, ls_fine hl.out hk, hl3, hz', hq, ho.out⟩
theorem xBook {B : Nat} (hz : Z2 V0 R bb p mm xw xf xr Lw Lf PP E [] (fun g => g = gx ∨ (B ≤ g ∧ g < W.heap.size)) W) (hq : QAt W gx u ba bc bd) (hv : W.ownsRow B 3 1 v l.length (cellsI l)) (hl : l.length ≤ 1000) :
    Calls Tryz.prog 11 #[.pointer (some ⟨bb, 0, none⟩), v] W fun e w' => e = .returned (.tuple #[]) ∧ Hid (Zx V0 R bb p mm xw xf xr Lw Lf PP E [(v, l)] gx u ba bc bd w') := by
  have hne : v.ownBlock ≠ some gx := fun e => own_ne_q hv hq (by decide) e rfl
  exact (z2Book hz v _ B l hv (by omega) fun g e => .inr ⟨own_ge' hv e, own_lt' hv e⟩).mono fun e w' ⟨h1, h2, h3⟩ => ⟨h1, h2.out.less (fun g e => by subst e; exact ⟨.inl rfl, hne⟩), hq.of (h3.out gx hq.lt (.inl rfl) hne)⟩
theorem xCan (h : Sb V0 Q qw qf qr g gs) (hz : Zx V0 (Rs V0 gs a b c) bb p mm xw xf xr Q.who Q.fixed PP E H gx u ba bc bd W) (hPP : PP.map Prod.fst = Q.rules) (hk : Pok Q) (hl : a ≤ 30000000000000 ∧ b ≤ 30000000000000 ∧ c ≤ 30000000000000) :
    Calls Tryz.prog 12 #[.pointer (some ⟨gs, 0, none⟩), pbV Q xw xf xr] W fun e w' => ∃ a' b' c' ok, e = .returned (.bool ok) ∧ Hid (a' ≤ a + 2000000000000 ∧ b' ≤ b + 2000000000000 ∧ c' ≤ c + 2000000000000) ∧ Hid (Zx V0 (Rs V0 gs a' b' c') bb p mm xw xf xr Q.who Q.fixed PP E H gx u ba bc bd w') := by
  obtain ⟨p1, p2, p3⟩ := h.at hz.z
  have hgl := h.gl
  have hgx := hz.hi
  refine (canF Q xw xf xr gs a b c W (hz.pv rfl rfl hPP.symm) hk hz.z.r.2 h.hG p3 (by omega) (by omega) (by omega)).mono ?_
  rintro e w' ⟨rfl, a', b', c', g1, g2, hf⟩
  have hle := g2.out.le (by decide)
  exact ⟨a', b', c', _, rfl, ⟨by omega, by omega, by omega⟩, (hz.z.solv h hf.out g1.out).less fun g e => .inl e, hz.q.of (hf.out.block gx hz.q.lt (by omega) (by omega))⟩
theorem xCheck (hz : Zx V0 R bb p mm xw xf xr Q.who Q.fixed PP E H gx u ba bc bd W) (hPP : PP.map Prod.fst = Q.rules) (hk : Pok Q) :
    Calls Tryz.prog 13 #[pbV Q xw xf xr] W fun e w' => ∃ n : Int, e = .returned (.int .i64 n) ∧ Hid (Zx V0 R bb p mm xw xf xr Q.who Q.fixed PP E H gx u ba bc bd w') :=
  (checkPF Q xw xf xr W (hz.pv rfl rfl hPP.symm) hk.w hk.f hk.r hk.s hk.b).mono fun _ _ ⟨h1, h2⟩ => ⟨_, h1, hz.below h2⟩
theorem xHolds (hz : Zx V0 R bb p mm xw xf xr Q.who Q.fixed PP ((v, l) :: E) H gx u ba bc bd W) (hPP : PP.map Prod.fst = Q.rules) (hk : Pok Q) (hl : Lq l) :
    Calls Tryz.prog 14 #[pbV Q xw xf xr, v] W fun e w' => ∃ ok, e = .returned (.bool ok) ∧ Hid (Zx V0 R bb p mm xw xf xr Q.who Q.fixed PP [] H gx u ba bc bd w') :=
  (holdsPF Q xw xf xr l v W (hz.pv rfl rfl hPP.symm) (hz.z.ex List.mem_cons_self) hl.len hk.w hk.f hk.r hk.s hk.b).mono fun _ _ ⟨h1, h2⟩ => ⟨_, h1, (hz.below h2).dropE⟩
theorem xBefore {v2 : Value} (hz : Zx V0 R bb p mm xw xf xr Lw Lf PP ((v2, l) :: (v, l) :: E) H gx u ba bc bd W) (hl : Lq l) :
    Calls Tryz.prog 15 #[v, v2] W fun e w' => ∃ ok, e = .returned (.bool ok) ∧ Hid (Zx V0 R bb p mm xw xf xr Lw Lf PP [] [] gx u ba bc bd w') :=
  (beforeF l l v v2 W (hz.z.ex (List.mem_cons_of_mem _ List.mem_cons_self)) (hz.z.ex List.mem_cons_self) hl.wf hl.wf (by have := hl.len; omega) (by have := hl.len; omega)).mono fun _ _ ⟨h1, h2⟩ => ⟨_, h1, (hz.below h2).drop⟩
/-- A problem of one's own: its rows from B on. -/
def FvB (B : Nat) (W : World) (P : Pb) (va vb vc : Value) : Prop :=
  ∃ E, E.map Prod.fst = P.rules ∧ W.ownsRow B 55 1 va P.who.length (cellsW P.who) ∧ W.ownsRow B 3 1 vb P.fixed.length (cellsI P.fixed) ∧ TwS B W vc E ∧ (∀ p ∈ E, ∀ g, vb.ownBlock = some g → p.2.ownBlock ≠ some g) ∧ Dvq E
theorem FvB.mv {B : Nat} {W W' : World} {P : Pb} {va vb vc : Value} (h : FvB B W P va vb vc) (hs : ∀ g, g < W.heap.size → ∀ (e sz n : Nat) (v : Value) (xs : List Value), W.ownsRow B e sz v n xs → v.ownBlock = some g → e ≠ 26 → W'.heap[g]? = W.heap[g]?) : FvB B W' P va vb vc := by
  obtain ⟨E, h1, h2, h3, h4, h5, h6⟩ := h
  exact ⟨E, h1, own_same h2 fun g hg e => hs g hg _ _ _ _ _ h2 e (by decide), own_same h3 fun g hg e => hs g hg _ _ _ _ _ h3 e (by decide), ⟨own_same h4.row fun g hg e => hs g hg _ _ _ _ _ h4.row e (by decide), fun p hp => own_same (h4.inner p hp) fun g hg e => hs g hg _ _ _ _ _ (h4.inner p hp) e (by decide)⟩, h5, h6⟩
/-- What stands behind Fix: the answer's box at gy. -/
def Yz (V0 : World) (R : World → Prop) (bb p mm : Nat) (xw xf xr : Value) (Lw : List Nat) (Lf : List Int) (PP : List (Rl × Value)) (gx gy : Nat) (u : Int) (ba bc bd : Value) (Y : Pb) (n : Nat) (va vb vc : Value) (W : World) : Prop :=
  ∃ B, Z2 V0 R bb p mm xw xf xr Lw Lf PP [] [] (fun g => g = gx ∨ g = gy ∨ (B ≤ g ∧ g < W.heap.size)) W ∧ QAt W gx u ba bc bd ∧ QAt W gy Y.users va vb vc ∧ (n = 0 → FvB B W Y va vb vc)
theorem Yz.x {Y : Pb} {n gy : Nat} {va vb vc : Value} (h : Yz V0 R bb p mm xw xf xr Lw Lf PP gx gy u ba bc bd Y n va vb vc W) : Zx V0 R bb p mm xw xf xr Lw Lf PP [] [] gx u ba bc bd W := by
  obtain ⟨B, h1, h2, _⟩ := h
  exact ⟨h1.less fun g e => .inl e, h2⟩
/-- Fix, then the box. -/
theorem xFix {s x : Int} (hz : Zx V0 R bb p mm xw xf xr Q.who Q.fixed PP [] [] gx u ba bc bd W) (hPP : PP.map Prod.fst = Q.rules) (hk : Pok Q) :
    Calls Tryz.prog 16 #[pbV Q xw xf xr, .int .i64 s, .int .i64 x] W fun e w' => ∃ va vb vc, (∃ oa ca ob cb oc cc, va = .slice oa (fxP Q s x).who.length ca ∧ vb = .slice ob (fxP Q s x).fixed.length cb ∧ vc = .slice oc (fxP Q s x).rules.length cc) ∧ e = .returned (.tuple #[.agg #[.int .i64 (fxP Q s x).users, va, vb, vc], .int .i64 (fxN Q s x : Int)]) ∧ Hid (QAt w' gx u ba bc bd) ∧ Hid (Yz V0 R bb p mm xw xf xr Q.who Q.fixed PP gx w'.heap.size u ba bc bd (fxP Q s x) (fxN Q s x) va vb vc (w'.alloc (.cells #[.int .i64 (fxP Q s x).users, va, vb, vc] 26))) := by
  refine (fixV Q xw xf xr s x W (hz.pv rfl rfl hPP.symm) hk).mono ?_
  rintro e w' ⟨va, vb, vc, rfl, h1, h2, h3, h4⟩
  have hA : Below w'.heap.size w' (w'.alloc (.cells #[.int .i64 (fxP Q s x).users, va, vb, vc] 26)) := (Below.refl _ _).alloc (Nat.le_refl _) _
  have hs := h2.out.size
  have h5 : Below W.heap.size W (w'.alloc (.cells #[.int .i64 (fxP Q s x).users, va, vb, vc] 26)) := h2.out.trans (hA.mono hs)
  refine ⟨va, vb, vc, h1.out.shape, rfl, hz.q.of (h2.out.block gx hz.q.lt), W.heap.size, (hz.z.free h5).less fun g e => ?_, hz.q.of (h5.block gx hz.q.lt), QAt.block (heap_new w' _), fun hn => FvB.mv (h4.out hn) fun g hg _ _ _ _ _ _ _ _ => hA.block g hg⟩
  rcases e with e | e | e
  · exact .inl e
  · exact .inr ⟨by omega, by subst e; simp⟩
  · exact .inr e
/-- The answer's Fixed into the book. -/
theorem yStart {Y : Pb} {gy : Nat} {va vb vc : Value} (h : Yz V0 R bb p mm xw xf xr Lw Lf PP gx gy u ba bc bd Y 0 va vb vc W) (hl : Y.fixed.length ≤ 1000) :
    ∃ B E, E.map Prod.fst = Y.rules ∧ Dvq E ∧ Calls Tryz.prog 11 #[.pointer (some ⟨bb, 0, none⟩), vb] W fun e w' => e = .returned (.tuple #[]) ∧ Hid (Yk V0 R bb p mm xw xf xr Lw Lf PP gx gy B Y.who.length va vc (cellsW Y.who) E 0 w') ∧ Hid (QAt w' gx u ba bc bd) ∧ Hid (QAt w' gy Y.users va vb vc) := by
  obtain ⟨B, h1, h2, h3, h4⟩ := h
  obtain ⟨E, e1, e2, e3, e4, e5, e6⟩ := h4 rfl
  have nx : ∀ {e sz n : Nat} {v : Value} {xs : List Value}, W.ownsRow B e sz v n xs → ∀ g, v.ownBlock = some g → B ≤ g ∧ g < W.heap.size := fun h g e => ⟨own_ge' h e, own_lt' h e⟩
  have nva : ∀ g, va.ownBlock = some g → vb.ownBlock ≠ some g := fun g e => kind_ne e2 e3 (by decide) e
  have nvc : ∀ g, vc.ownBlock = some g → vb.ownBlock ≠ some g := fun g e => kind_ne e4.row e3 (by decide) e
  have ngx : vb.ownBlock ≠ some gx := fun e => own_ne_q e3 h2 (by decide) e rfl
  have ngy : vb.ownBlock ≠ some gy := fun e => own_ne_q e3 h3 (by decide) e rfl
  refine ⟨B, E, e1, e6, (z2Book h1 vb _ B Y.fixed e3 (by omega) fun g e => .inr (.inr (nx e3 g e))).mono ?_⟩
  rintro e w' ⟨rfl, hz, hf⟩
  have k0 : kinds E 0 = E := by simp [kinds]
  refine ⟨rfl, ⟨hz.out.drop.less fun g e => ?_, own_same e2 fun g hg e => hf.out g hg (.inr (.inr (nx e2 g e))) (nva g e), by rw [k0]; exact own_same e4.row fun g hg e => hf.out g hg (.inr (.inr (nx e4.row g e))) (nvc g e), fun q hq => ?_⟩, h2.of (hf.out gx h2.lt (.inl rfl) ngx), h3.of (hf.out gy h3.lt (.inr (.inl rfl)) ngy)⟩
  · rcases e with e | e | e | e | ⟨q, hq, e⟩
    · subst e; exact ⟨.inl rfl, ngx⟩
    · subst e; exact ⟨.inr (.inl rfl), ngy⟩
    · exact ⟨.inr (.inr (nx e2 g e)), nva g e⟩
    · exact ⟨.inr (.inr (nx e4.row g e)), nvc g e⟩
    · rw [List.drop_zero] at hq
      exact ⟨.inr (.inr (nx (e4.inner q hq) g e)), fun r => e5 q hq g r e⟩
  · rw [List.drop_zero] at hq
    exact own_same (e4.inner q hq) fun g hg e => hf.out g hg (.inr (.inr (nx (e4.inner q hq) g e))) fun r => e5 q hq g r e
theorem Yz.qy {Y : Pb} {n gy : Nat} {va vb vc : Value} (h : Yz V0 R bb p mm xw xf xr Lw Lf PP gx gy u ba bc bd Y n va vb vc W) : QAt W gy Y.users va vb vc := by
  obtain ⟨B, _, _, h3, _⟩ := h
  exact h3
theorem yCell {gy B n i : Nat} {va vc : Value} {xs : List Value} {E : List (Rl × Value)} {q : Rl × Value} (h : Yk V0 R bb p mm xw xf xr Lw Lf PP gx gy B n va vc xs E i W) (hq : E[i]? = some q) : ∃ gc cc, vc = .slice (some ⟨gc, 0, none⟩) E.length cc ∧ W.cell? ⟨gc, i * 3 + 2, none⟩ = some q.2 := by
  have hi := (List.getElem?_eq_some_iff.1 hq).1
  have hr := h.rr
  rcases hr.2 with ⟨rfl, h0⟩ | ⟨g, cap, cur, rfl, _, _, hcap, _⟩
  · omega
  · have a2 := hr.cellAt (i * 3 + 2) (by omega)
    rw [cellsR_at _ i 2 (by decide), kinds_at hq] at a2
    exact ⟨g, cap, rfl, a2⟩
theorem yFrz {W : World} {B gc cc i : Nat} {E : List (Rl × Value)} {q : Rl × Value} (hr : W.ownsRow B 44 3 (.slice (some ⟨gc, 0, none⟩) E.length cc) E.length (cellsR (kinds E i))) (hq : E[i]? = some q) : W.cell? ⟨gc, i * 3, none⟩ = some (.int .i64 q.1.kind) ∧ W.frozen? ⟨gc, i * 3, none⟩ = false := by
  have hi := (List.getElem?_eq_some_iff.1 hq).1
  have a0 := hr.cellAt (i * 3 + 0) (by omega)
  rw [cellsR_at _ i 0 (by decide), kinds_at hq] at a0
  exact ⟨a0, hr.frozenAt _⟩
theorem wCell {gy B n i k : Nat} {va vc : Value} {xs : List Value} {E : List (Rl × Value)} (h : Yk V0 R bb p mm xw xf xr Lw Lf PP gx gy B n va vc xs E i W) (hk : k < n) : ∃ gw cw x, va = .slice (some ⟨gw, 0, none⟩) n cw ∧ W.cell? ⟨gw, k, none⟩ = some x ∧ W.frozen? ⟨gw, k, none⟩ = false := by
  have hr := h.wr
  have hl := hr.1
  rcases hr.2 with ⟨rfl, h0⟩ | ⟨g, cap, cur, rfl, _, _, hcap, _⟩
  · omega
  · have a2 := hr.cellAt k (by omega)
    rw [List.getElem?_eq_getElem (by omega)] at a2
    exact ⟨g, cap, _, rfl, a2, hr.frozenAt _⟩
theorem Yk.x {gy B n i : Nat} {va vc : Value} {xs : List Value} {E : List (Rl × Value)} (h : Yk V0 R bb p mm xw xf xr Lw Lf PP gx gy B n va vc xs E i W) (hx : QAt W gx u ba bc bd) : Zx V0 R bb p mm xw xf xr Lw Lf PP [] [] gx u ba bc bd W :=
  ⟨h.z.less fun _ e => .inl e, hx⟩
theorem fxP_ok {Q : Pb} {s x : Int} (hk : Pok Q) : (fxP Q s x).fixed.length ≤ 1000 ∧ (fxP Q s x).who.length ≤ 1000 ∧ (fxP Q s x).rules.length ≤ 1000 ∧ ∀ r ∈ (fxP Q s x).rules, r.steps.length ≤ 1000 := by
  unfold fxP
  split
  · exact ⟨by rw [List.length_set]; exact hk.f, hk.w, hk.r, hk.s⟩
  · exact ⟨Nat.zero_le _, Nat.zero_le _, Nat.zero_le _, fun r hr => by cases hr⟩
/-- The rules handed in are as they were. -/
theorem xKeep (h : Sb V0 Q qw qf qr g gs) (hz : Zx V0 (Rs V0 gs a b c) bb p mm xw xf xr Lw Lf PP E H gx u ba bc bd W) (hPP : PP.map Prod.fst = Q.rules) (hk : Pok Q) :
    Calls Tryz.prog 17 #[xr, qr] W fun e w' => e = .returned (.bool true) ∧ Hid (Zx V0 (Rs V0 gs a b c) bb p mm xw xf xr Lw Lf PP E H gx u ba bc bd w') :=
  (keepRules Q.rules xr qr W (by rw [← hPP]; exact rowR_lent hz.z.rules.1 hz.z.rules.2) (h.at hz.z).2.1.rules hk.r hk.s).mono fun _ _ ⟨h1, h2⟩ => ⟨h1, hz.below h2⟩
end
end Go.Proofs.YtkmglmfdcmcobaaGreatDoor.S
