/- A copy of a problem: its rows cloned, its box made, in whatever order. -/
import Derived.Test.YtmcnnfldobfddaaGreatDoorKApp
import Derived.Test.YtmcnnfldobfddaaGreatDoorJ24
import Derived.Test.YtmcnnfldobfddaaGreatDoorJ28
namespace Go.Proofs.YtmcnnfldobfddaaGreatDoor.S
/-- Can each rule still be kept? -/
def earA (P : Pb) (a : List Nat) : Bool := P.rules.all fun r => early r (P.who.length : Int) (ints a)
/-- The users of each block. -/
def rowD (P : Pb) (a : List Nat) : List Nat := (List.range (blks 0 a)).map (lvS (mayP P) a).1
theorem rowD_len (P : Pb) (a : List Nat) : (rowD P a).length = blks 0 a := by simp [rowD]
theorem rowD_fn (P : Pb) (a : List Nat) {b : Nat} (hb : b < blks 0 a) : M.fn (rowD P a) b = (lvS (mayP P) a).1 b := by
  unfold M.fn rowD
  simp [hb]
theorem has_iff (P : Pb) (a : List Nat) : M.Has (rowD P a) ↔ Iq (mayP P) a := by
  unfold M.Has Iq
  rw [M.full_iff, rowD_len]
  constructor
  · rintro ⟨f, h1, h2⟩
    exact ⟨f, fun r hr => by rw [← rowD_fn P a hr]; exact h1 r hr, h2⟩
  · rintro ⟨f, h1, h2⟩
    exact ⟨f, fun r hr => by rw [rowD_fn P a hr]; exact h1 r hr, h2⟩
/-- A pattern that has a plan. -/
def Gd (P : Pb) (m : List Nat) : Prop := (∀ r ∈ P.rules, holds r (ints m) = true) ∧ Iq (mayP P) m
/-- The first pattern that begins so and has a plan. -/
def SrS (P : Pb) (d : Nat) (a : List Nat) : Option (List Nat) → Prop
  | none => ∀ q, q.length = d → Leg (blks 0 a) q → ¬ Gd P (a ++ q)
  | some m => ∃ q, m = a ++ q ∧ q.length = d ∧ Leg (blks 0 a) q ∧ Gd P m ∧ ∀ q', q'.length = d → Leg (blks 0 a) q' → Gd P (a ++ q') → q' = q ∨ Lx q q'
theorem rul_chk {P : Pb} (hP : chkN P = 0) : ∀ r ∈ P.rules, chk (P.who.length : Int) r = true := fun r hr => by
  obtain ⟨_, _, _, _, _, _, hru⟩ := chkN_zero hP
  unfold rulB at hru
  rw [List.all_eq_true] at hru
  exact hru r hr
theorem gd_ear {P : Pb} (hP : chkN P = 0) {a q : List Nat} (hl : (a ++ q).length = P.who.length) (h : Gd P (a ++ q)) : earA P a = true := by
  unfold earA
  rw [List.all_eq_true]
  intro r hr
  have hc : chk ((ints (a ++ q)).length : Int) r = true := by rw [ints_len, hl]; exact rul_chk hP r hr
  have h1 := h.1 r hr
  unfold holds at h1
  have h2 := early_take hc h1 q.length a.length (by rw [ints_len, List.length_append])
  have e : (ints (a ++ q)).take a.length = ints a := by simp [ints]
  rw [e, ints_len, hl] at h2
  exact h2
theorem SrS.late {P : Pb} (hP : chkN P = 0) {d : Nat} {a : List Nat} (hl : a.length + d = P.who.length) (he : earA P a = false) : SrS P d a none := fun q hq _ hg => by
  have := gd_ear hP (by rw [List.length_append, hq]; exact hl) hg
  rw [he] at this; cases this
theorem SrS.leaf0 {P : Pb} {a : List Nat} (hh : ¬ M.Has (rowD P a)) : SrS P 0 a none := fun q hq _ hg => by
  rw [List.eq_nil_of_length_eq_zero hq, List.append_nil] at hg
  exact hh ((has_iff P a).2 hg.2)
theorem SrS.leaf1 {P : Pb} {a : List Nat} (hl : a.length = P.who.length) (he : earA P a = true) (hh : M.Has (rowD P a)) : SrS P 0 a (some a) := by
  refine ⟨[], by simp, rfl, trivial, ⟨fun r hr => ?_, (has_iff P a).1 hh⟩, fun q' hq _ _ => .inl (List.eq_nil_of_length_eq_zero hq)⟩
  unfold earA at he
  rw [List.all_eq_true] at he
  have := he r hr
  unfold holds
  rw [ints_len, hl]
  exact this
/-- None of the blocks below c goes on. -/
def SrL (P : Pb) (d : Nat) (a : List Nat) (c : Nat) : Prop := ∀ q, q.length = d + 1 → Leg (blks 0 a) q → (∃ b t, q = b :: t ∧ b < c) → ¬ Gd P (a ++ q)
theorem SrL.zero (P : Pb) (d : Nat) (a : List Nat) : SrL P d a 0 := fun _ _ _ ⟨_, _, _, h⟩ => absurd h (Nat.not_lt_zero _)
theorem SrL.next {P : Pb} {d : Nat} {a : List Nat} {c : Nat} (h : SrL P d a c) (hn : SrS P d (a ++ [c]) none) : SrL P d a (c + 1) := fun q hq hL ⟨b, t, e, hb⟩ hg => by
  by_cases hbc : b = c
  · subst e hbc
    have := hn t (by simpa using hq) (by rw [blks_snocH]; exact hL.2)
    rw [List.append_assoc] at this
    exact this hg
  · exact h q hq hL ⟨b, t, e, by omega⟩ hg
theorem SrL.found {P : Pb} {d : Nat} {a : List Nat} {c : Nat} {m : List Nat} (h : SrL P d a c) (hc : c ≤ blks 0 a) (hs : SrS P d (a ++ [c]) (some m)) : SrS P (d + 1) a (some m) := by
  obtain ⟨q, rfl, h1, h2, h3, h4⟩ := hs
  rw [blks_snocH] at h2 h4
  refine ⟨c :: q, by simp, by simp [h1], ⟨hc, h2⟩, by simpa using h3, fun q' hq hL hg => ?_⟩
  cases q' with
  | nil => simp at hq
  | cons b t =>
    rcases Nat.lt_trichotomy b c with hb | hb | hb
    · exact absurd hg (h _ hq hL ⟨b, t, rfl, hb⟩)
    · subst hb
      rcases h4 t (by simpa using hq) hL.2 (by simpa using hg) with rfl | h5
      · exact .inl rfl
      · exact .inr (.inr ⟨rfl, h5⟩)
    · exact .inr (.inl hb)
theorem SrL.none {P : Pb} {d : Nat} {a : List Nat} (h : SrL P d a (blks 0 a + 1)) : SrS P (d + 1) a none := fun q hq hL => by
  cases q with
  | nil => simp at hq
  | cons b t => exact h _ hq hL ⟨b, t, rfl, by have := hL.1; omega⟩
theorem srs_none {P : Pb} (h : chkN P = 0 → SrS P P.who.length [] none) : LsP P none := fun L => by
  cases hL : holP P L with
  | false => rfl
  | true =>
    obtain ⟨h1, h2, h3, _⟩ := plan_pat hL
    exact absurd ⟨h2, _, h3.bit, h3.inj⟩ (h (holP_of hL).1 (pat L) h1 (leg_pat0 L))
theorem srs_some {P : Pb} (hP : chkN P = 0) {m l : List Nat} (h : SrS P P.who.length [] (some m)) (hw : ∀ z ∈ rowD P m, z < 18446744073709551616) (hl : M.LexL (rowD P m) l) : LsP P (some (planL m (M.fn l))) := by
  obtain ⟨q, e, h1, h2, h3, h4⟩ := h
  rw [List.nil_append] at e
  subst e
  obtain ⟨g1, g2⟩ := hl.lex hw
  rw [rowD_len] at g1 g2
  refine ls_some hP h1 h2 ((kept_iff hP h1 h2).2 h3) (fun q' hq hL hk => h4 q' hq hL ((kept_iff hP hq hL).1 hk)) ?_
  exact ⟨⟨fun r hr => by rw [← rowD_fn P m hr]; exact g2.full.bit r hr, g2.full.inj⟩, fun j hj v hv g hg => g2.least j hj v hv g ⟨fun r hr => by rw [rowD_fn P m hr]; exact hg.bit r hr, hg.inj⟩⟩
/-- A block's users, one by one. -/
theorem row_bit {P : Pb} (hP : chkN P = 0) {a : List Nat} (hL : Leg 0 a) (hl : a.length ≤ P.who.length) {b u : Nat} (hb : b < blks 0 a) : ((lvS (mayP P) a).1 b).testBit u = true ↔ (u : Int) < P.users ∧ ∀ t, a[t]? = some b → okU P t (u : Int) = true := by
  rw [lvS_bit _ _ hL b u hb]
  obtain ⟨t0, ht0⟩ := List.getElem?_of_mem (occurs hL (Nat.zero_le _) hb)
  have hlt0 := (List.getElem?_eq_some_iff.1 ht0).1
  constructor
  · intro h
    have hu := may_user hP (by omega) (h t0 ht0)
    refine ⟨hu, fun t ht => ?_⟩
    unfold okU isU
    rw [Int.toNat_natCast, h t ht, decide_eq_true hu, decide_eq_true (Int.natCast_nonneg u)]
    rfl
  · rintro ⟨_, h⟩ t ht
    have := h t ht
    unfold okU at this
    rw [Bool.and_eq_true, Int.toNat_natCast] at this
    exact this.2
theorem row_lt {P : Pb} (hP : chkN P = 0) {a : List Nat} (hL : Leg 0 a) (hl : a.length ≤ P.who.length) : ∀ z ∈ rowD P a, z < 18446744073709551616 := fun z hz => by
  obtain ⟨b, hb, rfl⟩ := List.mem_map.1 hz
  have hb' := List.mem_range.1 hb
  obtain ⟨_, _, hU, _⟩ := chkN_zero hP
  have : (lvS (mayP P) a).1 b < 2 ^ 64 := Nat.lt_pow_two_of_testBit _ fun u hu => by
    cases h : ((lvS (mayP P) a).1 b).testBit u with
    | false => rfl
    | true => have := ((row_bit hP hL hl hb').1 h).1; omega
  exact this
end Go.Proofs.YtmcnnfldobfddaaGreatDoor.S
namespace Go.Proofs.YtmcnnfldobfddaaGreatDoor.S
open Go.RowKit Go.Shelf
theorem owns_zeroW (w : World) (cs : List Value) (h : cs = []) : (w.alloc (.cells #[] 58)).ownsRow w.heap.size 58 1 (.slice (some ⟨w.heap.size, 0, none⟩) 0 0) 0 cs := by
  subst h
  exact ⟨rfl, .inr ⟨_, 0, #[], rfl, Nat.le_refl _, heap_new w _, Nat.le_refl _, by unfold maxLen; omega, rfl, rfl⟩⟩
theorem one_cellsW (l : List Nat) : ∀ u ∈ cellsW l, u.oneCell' = true := fun u hu => by
  unfold cellsW at hu
  obtain ⟨z, _, rfl⟩ := List.mem_map.1 hu
  rfl
theorem cellsW_atC {l : List Nat} {j : Nat} {u : Value} (h : (cellsW l)[j]? = some u) : ∃ z, l[j]? = some z ∧ u = .int .u64 (z : Int) := by
  unfold cellsW at h
  rw [List.getElem?_map] at h
  cases hq : l[j]? with
  | none => rw [hq] at h; cases h
  | some z => rw [hq] at h; cases h; exact ⟨z, rfl, rfl⟩
theorem eq_nilW (w : World) : (binOp .eql 22 (.slice none 0 0) (.slice none 0 0)).run Tryz.prog w = .ok (.bool true) w := by kernel_rfl
theorem ne_nilW (ad : Addr) (n cap : Nat) (w : World) : (binOp .eql 22 (.slice (some ad) n cap) (.slice none 0 0)).run Tryz.prog w = .ok (.bool false) w := by kernel_rfl
set_option maxRecDepth 100000 in
set_option maxHeartbeats 1000000 in
theorem cloneW (l : List Nat) (v : Value) (w : World) (hr : RowW w v l) (hn : l.length ≤ 1000) :
    Calls Tryz.prog 59 #[v] w fun e w' => ∃ v', e = .returned v' ∧ w'.ownsRow w.heap.size 58 1 v' l.length (cellsW l) ∧ Below w.heap.size w w' := by
  obtain ⟨oa, cap, rfl, hcap, hc⟩ := hr
  obtain ⟨i0, hi, hz0, hz1, hz2⟩ := info_parts infoW
  have hc' := hide' hc
  clear hc
  go_enter Tryz.func59, Tryz.ntmps59
  cases oa with
  | none =>
    obtain ⟨h1, h2⟩ := hcap
    have := h2 rfl
    subst this
    have : l = [] := List.eq_nil_of_length_eq_zero (by omega)
    subst this
    have hq := eq_nilW w
    go_wp2
    go_ret
    exact ⟨_, rfl, World.ownsRow_nil w _ _ _, Below.refl _ _⟩
  | some ad =>
    have hq := ne_nilW ad l.length cap w
    have hnews : ∀ j u, (cellsW l)[j]? = some u → w.cell? (ad.add j) = some u := fun j u hu => by
      obtain ⟨z, hz, rfl⟩ := cellsW_atC hu
      obtain ⟨g, o, e, hcell⟩ := hc'.out j z hz
      cases e
      rw [Addr.add_lit]; exact hcell
    go_wp2_with (at_builtin; refine wpList_append_own _ rfl _ _ 22 rfl w.heap.size 58 i0 (.int .u64 0) 1 8 Tryz.underlying22 hi hz0 hz1 hz2 rfl (by decide) _ 0 (cellsW []) rfl (owns_zeroW w _ rfl) ad l.length cap (cellsW l) rfl (by simp [cellsW]) (fun j u hu => cell_new (hnews j u hu)) (one_cellsW _) (by unfold maxLen; omega) (by omega) (by simp) ?_; intro v1 w1 hown1 hgrow1 hnil)
    go_ret
    rw [Nat.zero_add] at hown1
    have hown : w1.ownsRow w.heap.size 58 1 v1 l.length (cellsW l) := hown1
    exact ⟨_, rfl, hown, ((Below.refl _ w).alloc (Nat.le_refl _) _).grown hgrow1 (by simp) (fun j ej => by cases ej; exact Nat.le_refl _)⟩
end Go.Proofs.YtmcnnfldobfddaaGreatDoor.S
namespace Go.Proofs.YtmcnnfldobfddaaGreatDoor.S
open Go.RowKit Go.Shelf
structure Fq (w : World) (P : Pb) (wv fv rv : Value) (gq : Nat) (W : World) (u : Int) (a b c va vb vc : Value) (L1 : List Nat) (L2 : List Int) (E : List (Rl × Value)) : Prop where
  pb : PbB W w.heap.size P wv fv rv
  z : QAt W (w.heap.size + 1) 0 (.slice none 0 0) (.slice none 0 0) (.slice none 0 0)
  qb : QAt W gq u a b c
  r1 : W.ownsRow (w.heap.size + 2) 58 1 va L1.length (cellsW L1)
  r2 : W.ownsRow (w.heap.size + 2) 3 1 vb L2.length (cellsI L2)
  r3 : TwS (w.heap.size + 2) W vc E
  dj : ∀ p ∈ E, ∀ g, vb.ownBlock = some g → p.2.ownBlock ≠ some g
  ge : w.heap.size + 2 ≤ gq
  be : Below w.heap.size w W
theorem own_ne_q {W : World} {B e sz : Nat} {v : Value} {n : Nat} {xs : List Value} {gq : Nat} {u : Int} {a b c : Value} (h : W.ownsRow B e sz v n xs) (hq : QAt W gq u a b c) (he : e ≠ 26) {g : Nat} (hg : v.ownBlock = some g) : g ≠ gq := fun q => by
  subst q
  obtain ⟨c1, f1, h1⟩ := Go.Lib.ownsRow_kind h g hg
  obtain ⟨c2, h2, _⟩ := hq
  rw [h1] at h2
  injection h2 with h2
  injection h2 with _ h2
  exact he h2
section
variable {w : World} {P : Pb} {wv fv rv : Value} {gq : Nat} {W W' : World} {u : Int} {a b c a' b' c' va vb vc : Value} {L1 : List Nat} {L2 : List Int} {E : List (Rl × Value)}
theorem Fq.sz (h : Fq w P wv fv rv gq W u a b c va vb vc L1 L2 E) : w.heap.size + 2 ≤ W.heap.size := by have := h.qb.lt; have := h.ge; omega
theorem Fq.over (h : Fq w P wv fv rv gq W u a b c va vb vc L1 L2 E) (hb : Below W.heap.size W W') : Fq w P wv fv rv gq W' u a b c va vb vc L1 L2 E :=
  ⟨h.pb.below hb, h.z.of (hb.block _ h.z.lt), h.qb.of (hb.block _ h.qb.lt), own_below h.r1 hb (Nat.le_refl _), own_below h.r2 hb (Nat.le_refl _), h.r3.below hb (Nat.le_refl _), h.dj, h.ge, h.be.trans (hb.mono h.be.size)⟩
theorem Fq.cells (h : Fq w P wv fv rv gq W u a b c va vb vc L1 L2 E) : W.cell? ⟨w.heap.size, 0, none⟩ = some (.int .i64 P.users) ∧ W.cell? ⟨w.heap.size, 1, none⟩ = some wv ∧ W.cell? ⟨w.heap.size, 2, none⟩ = some fv := ⟨h.pb.c0, h.pb.c1, h.pb.c2⟩
/-- The box written. -/
theorem Fq.put (h : Fq w P wv fv rv gq W u a b c va vb vc L1 L2 E) {o : Nat} {x : Value} (hq : QAt (W.setCell ⟨gq, o, none⟩ x) gq u a' b' c') : Fq w P wv fv rv gq (W.setCell ⟨gq, o, none⟩ x) u a' b' c' va vb vc L1 L2 E := by
  have hge := h.ge
  have hb : Below gq W (W.setCell ⟨gq, o, none⟩ x) := (Below.refl _ W).setCell (p := ⟨gq, o, none⟩) (Nat.le_refl _) _
  have hs : ∀ {B e sz : Nat} {v : Value} {n : Nat} {xs : List Value}, W.ownsRow B e sz v n xs → e ≠ 26 → (W.setCell ⟨gq, o, none⟩ x).ownsRow B e sz v n xs := fun ho he => own_same ho fun g _ e => Below.heap_setCell _ _ _ _ (own_ne_q ho h.qb he e)
  exact ⟨(hb.block _ (by omega)).trans h.pb, h.z.of (hb.block _ (by omega)), hq, hs h.r1 (by decide), hs h.r2 (by decide), ⟨hs h.r3.row (by decide), fun p hp => hs (h.r3.inner p hp) (by decide)⟩, h.dj, h.ge, h.be.trans (hb.mono (by omega))⟩
/-- A rule more. -/
theorem Fq.wapp3 {o : Oper} {ac : Act} {Q : Exit → Act → World → Prop} {K : Act → World → Prop} (s x : Operand) (h : Fq w P wv fv rv gq W u a b c va vb vc L1 L2 E) (p : Rl × Value) (hp : W.ownsRow (w.heap.size + 2) 3 1 p.2 p.1.steps.length (cellsI p.1.steps)) (hn2 : ∀ g, vb.ownBlock = some g → p.2.ownBlock ≠ some g) (ho : o.op = .call { callee := .builtin .append, args := #[s, x], argTypes := #[24, 24] })
    (es : ac.eval s = vc) (ex : ac.eval x = .slice (some ⟨W.heap.size, 0, none⟩) 1 1) (hn : E.length ≤ 1000000)
    (hK : ∀ o5 n5 c5 w2, Fq w P wv fv rv gq w2 u a b c va vb (.slice o5 n5 c5) L1 L2 (E ++ [p]) → K (ac.put o.dst (.slice o5 n5 c5)) w2) : o.wp Tryz.prog ac (W.alloc (.cells #[.int .i64 p.1.kind, .int .i64 p.1.k, p.2] 73)) K Q := by
  obtain ⟨i0, hi, hz0, hz1, hz2⟩ := info_parts infoR
  have hs := h.sz
  have hT1 : TwS (w.heap.size + 2) (W.alloc (.cells #[.int .i64 p.1.kind, .int .i64 p.1.k, p.2] 73)) vc E := ⟨h.r3.row.alloc _, fun q hq => (h.r3.inner q hq).alloc _⟩
  have hne : ∀ g, vc.ownBlock = some g → p.2.ownBlock ≠ some g := fun g e1 e2 => by
    obtain ⟨c1, f1, h1⟩ := Go.Lib.ownsRow_kind h.r3.row g e1
    obtain ⟨c2, f2, h2⟩ := Go.Lib.ownsRow_kind hp g e2
    rw [h1] at h2
    simp at h2
  refine wp_append_own _ s x 24 ho (w.heap.size + 2) 73 i0 (.agg #[.int .i64 0, .int .i64 0, .slice none 0 0]) 3 40 Tryz.underlying24 hi hz0 hz1 hz2 rfl (by decide) vc E.length (cellsR E) es hT1.row ⟨W.heap.size, 0, none⟩ 1 1 (rcells p) ex rfl (World.news_of_block (cs := #[.int .i64 p.1.kind, .int .i64 p.1.k, p.2]) (heap_new _ _)) (rcells_one p (own_one hp)) (by unfold maxLen; omega) (by omega) (by simp; omega) ?_
  intro v2 w2 hown hgrow _
  have hb : Below (w.heap.size + 2) W w2 := ((Below.refl _ W).alloc hs _).grown hgrow (by simp; omega) (fun j ej => own_ge' h.r3.row ej)
  have hTw := hT1.push p (hp.alloc _) hne hown hgrow
  obtain ⟨o5, c5, rfl⟩ := own_shp hown
  have hqb : QAt w2 gq u a b c := by
    have h1 : QAt (W.alloc (.cells #[.int .i64 p.1.kind, .int .i64 p.1.k, p.2] 73)) gq u a b c := h.qb.of (((Below.refl W.heap.size W).alloc (Nat.le_refl _) _).block _ h.qb.lt)
    exact h1.of (hgrow.block gq h1.lt fun e => own_ne_q hT1.row h1 (by decide) e.symm rfl)
  refine hK _ _ _ _ ⟨(hb.block _ (by omega)).trans h.pb, h.z.of (hb.block _ (by omega)), hqb, kept_kind (h.r1.alloc _) hT1.row (by decide) hgrow, kept_kind (h.r2.alloc _) hT1.row (by decide) hgrow, hTw, fun q hq => ?_, h.ge, h.be.trans (hb.mono (by omega))⟩
  rcases List.mem_append.1 hq with e | e
  · exact h.dj q e
  · rw [List.mem_singleton] at e
    subst e
    exact hn2
theorem cellsW_setQ (L : List Nat) (k z : Nat) : (cellsW L).set k (.int .u64 (z : Int)) = cellsW (L.set k z) := by unfold cellsW; rw [List.map_set]
/-- One of Who written over. -/
theorem Fq.setW {gw cw : Nat} {a0 : Value} (h : Fq w P wv fv rv gq W u a0 b c (.slice (some ⟨gw, 0, none⟩) L1.length cw) vb vc L1 L2 E) (k z : Nat) : Fq w P wv fv rv gq (W.setCell ⟨gw, k, none⟩ (.int .u64 (z : Int))) u a0 b c (.slice (some ⟨gw, 0, none⟩) L1.length cw) vb vc (L1.set k z) L2 E := by
  have hge : w.heap.size + 2 ≤ gw := own_ge' h.r1 rfl
  have hb : Below (w.heap.size + 2) W (W.setCell ⟨gw, k, none⟩ (.int .u64 (z : Int))) := (Below.refl _ W).setCell (p := ⟨gw, k, none⟩) hge _
  have hs := h.r1.stored k (.int .u64 (z : Int))
  have hne : gw ≠ gq := own_ne_q h.r1 h.qb (by decide) rfl
  refine ⟨(hb.block _ (by omega)).trans h.pb, h.z.of (hb.block _ (by omega)), h.qb.of (Below.heap_setCell _ _ _ _ (fun e => hne e.symm)), ?_, kept_kind h.r2 h.r1 (by decide) hs.2, ⟨kept_kind h.r3.row h.r1 (by decide) hs.2, fun p hp => kept_kind (h.r3.inner p hp) h.r1 (by decide) hs.2⟩, h.dj, h.ge, h.be.trans (hb.mono (by omega))⟩
  have := hs.1
  rw [cellsW_setQ] at this
  rw [List.length_set]
  exact this
theorem cellsI_set (L : List Int) (k : Nat) (z : Int) : (cellsI L).set k (.int .i64 z) = cellsI (L.set k z) := by unfold cellsI; rw [List.map_set]
/-- One of Fixed written over. -/
theorem Fq.setF {gf cf : Nat} {b0 : Value} (h : Fq w P wv fv rv gq W u a b0 c va (.slice (some ⟨gf, 0, none⟩) L2.length cf) vc L1 L2 E) (k : Nat) (z : Int) : Fq w P wv fv rv gq (W.setCell ⟨gf, k, none⟩ (.int .i64 z)) u a b0 c va (.slice (some ⟨gf, 0, none⟩) L2.length cf) vc L1 (L2.set k z) E := by
  have hge : w.heap.size + 2 ≤ gf := own_ge' h.r2 rfl
  have hb : Below (w.heap.size + 2) W (W.setCell ⟨gf, k, none⟩ (.int .i64 z)) := (Below.refl _ W).setCell (p := ⟨gf, k, none⟩) hge _
  have hs := h.r2.stored k (.int .i64 z)
  have hne : gf ≠ gq := own_ne_q h.r2 h.qb (by decide) rfl
  refine ⟨(hb.block _ (by omega)).trans h.pb, h.z.of (hb.block _ (by omega)), h.qb.of (Below.heap_setCell _ _ _ _ (fun e => hne e.symm)), kept_kind h.r1 h.r2 (by decide) hs.2, ?_, ⟨kept_kind h.r3.row h.r2 (by decide) hs.2, fun p hp => own_same (h.r3.inner p hp) fun g _ e => Below.heap_setCell _ _ _ _ fun q => ?_⟩, h.dj, h.ge, h.be.trans (hb.mono (by omega))⟩
  · have := hs.1
    rw [cellsI_set] at this
    rw [List.length_set]
    exact this
  · subst q
    exact h.dj p hp g rfl e
end
end Go.Proofs.YtmcnnfldobfddaaGreatDoor.S
namespace Go.Proofs.YtmcnnfldobfddaaGreatDoor.S
open Go.RowKit Go.Shelf
theorem QAt.s0C {W : World} {g : Nat} {u : Int} {a b c : Value} (h : QAt W g u a b c) (x : Int) : QAt (W.setCell ⟨g, 0, none⟩ (.int .i64 x)) g x a b c :=
  World.rowIs.congr (World.rowIs.set h 0 _) fun i hi => by
    match i, hi with
    | 0, _ => rfl
    | 1, _ => rfl
    | 2, _ => rfl
    | 3, _ => rfl
structure Fp (w : World) (P : Pb) (wv fv rv : Value) (V : World) (va vb : Value) (L1 : List Nat) (L2 : List Int) : Prop where
  pb : PbB V w.heap.size P wv fv rv
  z : QAt V (w.heap.size + 1) 0 (.slice none 0 0) (.slice none 0 0) (.slice none 0 0)
  r1 : V.ownsRow (w.heap.size + 2) 58 1 va L1.length (cellsW L1)
  r2 : V.ownsRow (w.heap.size + 2) 3 1 vb L2.length (cellsI L2)
  pv : PbV V P wv fv rv
  be : Below w.heap.size w V
structure Fb (w : World) (P : Pb) (wv fv rv : Value) (gq : Nat) (V : World) (va vb : Value) (L1 : List Nat) (L2 : List Int) : Prop where
  p : Fp w P wv fv rv V va vb L1 L2
  qb : QAt V gq 0 (.slice none 0 0) (.slice none 0 0) (.slice none 0 0)
  ge : w.heap.size + 2 ≤ gq
section
variable {w : World} {P : Pb} {wv fv rv : Value} {gq : Nat} {V V' : World} {va vb va' vb' : Value} {L1 : List Nat} {L2 : List Int}
theorem Fp.sz (h : Fp w P wv fv rv V va vb L1 L2) : w.heap.size + 2 ≤ V.heap.size := h.z.lt
theorem Fp.cells (h : Fp w P wv fv rv V va vb L1 L2) : V.cell? ⟨w.heap.size, 0, none⟩ = some (.int .i64 P.users) ∧ V.cell? ⟨w.heap.size, 1, none⟩ = some wv ∧ V.cell? ⟨w.heap.size, 2, none⟩ = some fv := ⟨h.pb.c0, h.pb.c1, h.pb.c2⟩
theorem Fp.over (h : Fp w P wv fv rv V va vb L1 L2) (hb : Below V.heap.size V V') : Fp w P wv fv rv V' va vb L1 L2 :=
  ⟨h.pb.below hb, h.z.of (hb.block _ h.z.lt), own_below h.r1 hb (Nat.le_refl _), own_below h.r2 hb (Nat.le_refl _), h.pv.below hb, h.be.trans (hb.mono h.be.size)⟩
theorem Fp.who (h : Fp w P wv fv rv V va vb L1 L2) (hb : Below V.heap.size V V') {L : List Nat} (ho : V'.ownsRow V.heap.size 58 1 va' L.length (cellsW L)) : Fp w P wv fv rv V' va' vb L L2 := by
  have k := h.over hb
  exact ⟨k.pb, k.z, own_down ho h.sz, k.r2, k.pv, k.be⟩
theorem Fp.fix (h : Fp w P wv fv rv V va vb L1 L2) (hb : Below V.heap.size V V') {L : List Int} (ho : V'.ownsRow V.heap.size 3 1 vb' L.length (cellsI L)) : Fp w P wv fv rv V' va vb' L1 L := by
  have k := h.over hb
  exact ⟨k.pb, k.z, k.r1, own_down ho h.sz, k.pv, k.be⟩
theorem Fp.box (h : Fp w P wv fv rv V va vb L1 L2) : Fb w P wv fv rv V.heap.size (V.alloc (.cells #[.int .i64 0, .slice none 0 0, .slice none 0 0, .slice none 0 0] 26)) va vb L1 L2 :=
  ⟨h.over ((Below.refl _ V).alloc (Nat.le_refl _) _), QAt.block (heap_new V _), h.sz⟩
theorem Fb.over (h : Fb w P wv fv rv gq V va vb L1 L2) (hb : Below V.heap.size V V') : Fb w P wv fv rv gq V' va vb L1 L2 := ⟨h.p.over hb, h.qb.of (hb.block _ h.qb.lt), h.ge⟩
theorem Fb.who (h : Fb w P wv fv rv gq V va vb L1 L2) (hb : Below V.heap.size V V') {L : List Nat} (ho : V'.ownsRow V.heap.size 58 1 va' L.length (cellsW L)) : Fb w P wv fv rv gq V' va' vb L L2 := ⟨h.p.who hb ho, h.qb.of (hb.block _ h.qb.lt), h.ge⟩
theorem Fb.fix (h : Fb w P wv fv rv gq V va vb L1 L2) (hb : Below V.heap.size V V') {L : List Int} (ho : V'.ownsRow V.heap.size 3 1 vb' L.length (cellsI L)) : Fb w P wv fv rv gq V' va vb' L1 L := ⟨h.p.fix hb ho, h.qb.of (hb.block _ h.qb.lt), h.ge⟩
/-- The box made last. -/
theorem Fp.close (h : Fp w P wv fv rv V va vb L1 L2) (u : Int) (a b : Value) : Fq w P wv fv rv V.heap.size (V.alloc (.cells #[.int .i64 u, a, b, .slice none 0 0] 26)) u a b (.slice none 0 0) va vb (.slice none 0 0) L1 L2 [] := by
  have k := h.over ((Below.refl _ V).alloc (Nat.le_refl _) (.cells #[.int .i64 u, a, b, .slice none 0 0] 26))
  exact ⟨k.pb, k.z, QAt.block (heap_new V _), k.r1, k.r2, TwS.nil _ _, (fun p hp => by cases hp), h.sz, k.be⟩
theorem Fb.fq (h : Fb w P wv fv rv gq V va vb L1 L2) : Fq w P wv fv rv gq V 0 (.slice none 0 0) (.slice none 0 0) (.slice none 0 0) va vb (.slice none 0 0) L1 L2 [] :=
  ⟨h.p.pb, h.p.z, h.qb, h.p.r1, h.p.r2, TwS.nil _ _, (fun p hp => by cases hp), h.ge, h.p.be⟩
/-- The box made ahead. -/
theorem Fq.put0 {u : Int} {a b c vc : Value} {E : List (Rl × Value)} (h : Fq w P wv fv rv gq V u a b c va vb vc L1 L2 E) (x : Int) : Fq w P wv fv rv gq (V.setCell ⟨gq, 0, none⟩ (.int .i64 x)) x a b c va vb vc L1 L2 E := by
  have hge := h.ge
  have hb : Below gq V (V.setCell ⟨gq, 0, none⟩ (.int .i64 x)) := (Below.refl _ V).setCell (p := ⟨gq, 0, none⟩) (Nat.le_refl _) _
  have hs : ∀ {B e sz : Nat} {v : Value} {n : Nat} {xs : List Value}, V.ownsRow B e sz v n xs → e ≠ 26 → (V.setCell ⟨gq, 0, none⟩ (.int .i64 x)).ownsRow B e sz v n xs := fun ho he => own_same ho fun g _ e => Below.heap_setCell _ _ _ _ (own_ne_q ho h.qb he e)
  exact ⟨(hb.block _ (by omega)).trans h.pb, h.z.of (hb.block _ (by omega)), h.qb.s0C x, hs h.r1 (by decide), hs h.r2 (by decide), ⟨hs h.r3.row (by decide), fun p hp => hs (h.r3.inner p hp) (by decide)⟩, h.dj, h.ge, h.be.trans (hb.mono (by omega))⟩
theorem Fb.close (h : Fb w P wv fv rv gq V va vb L1 L2) (u : Int) (a b : Value) : Fq w P wv fv rv gq ((((V.setCell ⟨gq, 0, none⟩ (.int .i64 u)).setCell ⟨gq, 1, none⟩ a).setCell ⟨gq, 2, none⟩ b).setCell ⟨gq, 3, none⟩ (.slice none 0 0)) u a b (.slice none 0 0) va vb (.slice none 0 0) L1 L2 [] := by
  have h1 := h.fq.put0 u
  have h2 := h1.put (h1.qb.s1 a)
  have h3 := h2.put (h2.qb.s2 b)
  exact h3.put (h3.qb.s3 (.slice none 0 0))
theorem Fp.start (h : PbV w P wv fv rv) : Fp w P wv fv rv ((w.alloc (.cells #[.int .i64 P.users, wv, fv, rv] 26)).alloc (.cells #[.int .i64 0, .slice none 0 0, .slice none 0 0, .slice none 0 0] 26)) (.slice none 0 0) (.slice none 0 0) [] [] := by
  have hz : (w.alloc (.cells #[.int .i64 P.users, wv, fv, rv] 26)).heap.size = w.heap.size + 1 := by simp
  have hA : Below w.heap.size w (w.alloc (.cells #[.int .i64 P.users, wv, fv, rv] 26)) := (Below.refl _ w).alloc (Nat.le_refl _) _
  have hB : Below (w.heap.size + 1) (w.alloc (.cells #[.int .i64 P.users, wv, fv, rv] 26)) ((w.alloc (.cells #[.int .i64 P.users, wv, fv, rv] 26)).alloc (.cells #[.int .i64 0, .slice none 0 0, .slice none 0 0, .slice none 0 0] 26)) := by
    have := (Below.refl (w.alloc (.cells #[.int .i64 P.users, wv, fv, rv] 26)).heap.size (w.alloc (.cells #[.int .i64 P.users, wv, fv, rv] 26))).alloc (Nat.le_refl _) (.cells #[.int .i64 0, .slice none 0 0, .slice none 0 0, .slice none 0 0] 26)
    rwa [hz] at this
  have hp : PbB (w.alloc (.cells #[.int .i64 P.users, wv, fv, rv] 26)) w.heap.size P wv fv rv := heap_new w _
  have hW : Below w.heap.size w ((w.alloc (.cells #[.int .i64 P.users, wv, fv, rv] 26)).alloc (.cells #[.int .i64 0, .slice none 0 0, .slice none 0 0, .slice none 0 0] 26)) := hA.trans (hB.mono (Nat.le_succ _))
  refine ⟨(hB.block _ (Nat.lt_succ_self _)).trans hp, ?_, World.ownsRow_nil _ _ _ _, World.ownsRow_nil _ _ _ _, h.below hW, hW⟩
  rw [← hz]
  exact QAt.block (heap_new _ _)
end
end Go.Proofs.YtmcnnfldobfddaaGreatDoor.S
