/- The document's Foes. -/
import Derived.Test.YtcdlodmoiobpbaaRDFoe
namespace Go.Proofs.Ytcdlodmoiobpbaa
open Go.RowKit
theorem Sets.trans {n : Nat} {F G H : Nat → Nat} {P Q S : Nat → Nat → Prop} (h1 : Sets n F G P) (h2 : Sets n G H Q) (hS : ∀ x y, x < n → y < n → (S x y ↔ P x y ∨ Q x y)) : Sets n F H S :=
  ⟨fun x y hx => by
    rw [h2.1 x y hx, h1.1 x y hx]
    constructor
    · rintro ((h | ⟨h3, h4⟩) | ⟨h3, h4⟩)
      · exact .inl h
      · exact .inr ⟨h3, (hS x y hx h3).2 (.inl h4)⟩
      · exact .inr ⟨h3, (hS x y hx h3).2 (.inr h4)⟩
    · rintro (h | ⟨h3, h4⟩)
      · exact .inl (.inl h)
      · rcases (hS x y hx h3).1 h4 with h5 | h5
        · exact .inl (.inr ⟨h3, h5⟩)
        · exact .inr ⟨h3, h5⟩, h2.2⟩
/-- Two steps of the row, ahead of the pair (a, b), at unlike places. -/
def pairP (t T : List Nat) (a b x y : Nat) : Prop := ∃ i j, (i < a ∨ i = a ∧ j < b) ∧ j < T.length ∧ i ≠ j ∧ t.getD x 0 = t.getD (T.getD i 0) 0 ∧ t.getD y 0 = t.getD (T.getD j 0) 0
/-- Kept apart by one of the first c rules. -/
def foesP (t : List Nat) (R : List Rl) (c x y : Nat) : Prop := ∃ d r, d < c ∧ R[d]? = some r ∧ r.kind = 1 ∧ pairP t (r.steps.map Int.toNat) r.steps.length 0 x y
def midP (t : List Nat) (R : List Rl) (c : Nat) (T : List Nat) (a b x y : Nat) : Prop := foesP t R c x y ∨ pairP t T a b x y
theorem foes_skip {t : List Nat} {R : List Rl} {c : Nat} {r : Rl} (h : R[c]? = some r) (hk : ¬ r.kind = 1) (x y : Nat) : foesP t R c x y ↔ foesP t R (c + 1) x y := by
  constructor
  · rintro ⟨d, r', h1, h2⟩; exact ⟨d, r', by omega, h2⟩
  · rintro ⟨d, r', h1, h2, h3, h4⟩
    by_cases e : d = c
    · subst e; rw [h] at h2; cases h2; exact absurd h3 hk
    · exact ⟨d, r', by omega, h2, h3, h4⟩
theorem foes_next {t : List Nat} {R : List Rl} {c : Nat} {r : Rl} (h : R[c]? = some r) (hk : r.kind = 1) (x y : Nat) : midP t R c (r.steps.map Int.toNat) r.steps.length 0 x y ↔ foesP t R (c + 1) x y := by
  constructor
  · rintro (⟨d, r', h1, h2⟩ | h1)
    · exact ⟨d, r', by omega, h2⟩
    · exact ⟨c, r, by omega, h, hk, h1⟩
  · rintro ⟨d, r', h1, h2, h3, h4⟩
    by_cases e : d = c
    · subst e; rw [h] at h2; cases h2; exact .inr h4
    · exact .inl ⟨d, r', by omega, h2, h3, h4⟩
theorem mid_start {t : List Nat} {R : List Rl} {c : Nat} (T : List Nat) (x y : Nat) : foesP t R c x y ↔ midP t R c T 0 0 x y := by
  constructor
  · exact fun h => .inl h
  · rintro (h | ⟨i, j, h1, _⟩)
    · exact h
    · omega
theorem mid_over {t : List Nat} {R : List Rl} {c : Nat} (T : List Nat) {a : Nat} (x y : Nat) : midP t R c T a T.length x y ↔ midP t R c T (a + 1) 0 x y := by
  constructor
  · rintro (h | ⟨i, j, h1, h2⟩)
    · exact .inl h
    · exact .inr ⟨i, j, by omega, h2⟩
  · rintro (h | ⟨i, j, h1, h2⟩)
    · exact .inl h
    · exact .inr ⟨i, j, by omega, h2⟩
theorem mid_same {t : List Nat} {R : List Rl} {c : Nat} (T : List Nat) {a : Nat} (x y : Nat) : midP t R c T a a x y ↔ midP t R c T a (a + 1) x y := by
  constructor
  · rintro (h | ⟨i, j, h1, h2, h3⟩)
    · exact .inl h
    · exact .inr ⟨i, j, by omega, h2, h3⟩
  · rintro (h | ⟨i, j, h1, h2, h3, h4⟩)
    · exact .inl h
    · exact .inr ⟨i, j, by omega, h2, h3, h4⟩
theorem mid_pair {n : Nat} {t : List Nat} {R : List Rl} {c : Nat} (T : List Nat) {a b : Nat} (hab : a ≠ b) (hb : b < T.length) (x y : Nat) (hx : x < n) : midP t R c T a (b + 1) x y ↔ midP t R c T a b x y ∨ foeP t (T.getD a 0) (T.getD b 0) n 0 x y := by
  unfold foeP
  constructor
  · rintro (h | ⟨i, j, h1, h2, h3, h4, h5⟩)
    · exact .inl (.inl h)
    · by_cases e : i = a ∧ j = b
      · obtain ⟨rfl, rfl⟩ := e
        exact .inr ⟨.inl hx, h4, h5⟩
      · exact .inl (.inr ⟨i, j, by omega, h2, h3, h4, h5⟩)
  · rintro ((h | ⟨i, j, h1, h2⟩) | ⟨_, h4, h5⟩)
    · exact .inl h
    · exact .inr ⟨i, j, by omega, h2⟩
    · exact .inr ⟨a, b, by omega, hb, hab, h4, h5⟩
theorem ofR_at {t : List Nat} {r : Rl} {k : Nat} (h : k < r.steps.length) : (ofR t r).getD k 0 = t.getD ((r.steps.map Int.toNat).getD k 0) 0 := by
  obtain ⟨s, hs⟩ : ∃ s, (r.steps.map Int.toNat)[k]? = some s := ⟨_, List.getElem?_eq_getElem (by rw [List.length_map]; exact h)⟩
  rw [getD_some hs]
  unfold ofR
  rw [List.getD_eq_getElem?_getD, List.getElem?_map, hs]; rfl
theorem foe_bits {n : Nat} {R : List Rl} {x y : Nat} : (foe n R x).testBit y = true ↔ y < n ∧ foesP (tie n R) R R.length x y := by
  have hl : (tie n R).length = n := tieC_len _ _ _
  unfold foe
  rw [agC_bit]
  constructor
  · rintro ⟨d, r, h1, h2, h3, k, hk, hx, l, hl', hne, hb⟩
    have hlen : (ofR (tie n R) r).length = r.steps.length := by unfold ofR; rw [List.length_map, List.length_map]
    rw [hlen] at hk hl'
    obtain ⟨hyn, hyt⟩ := (bwC_bit _ _ _ _).1 hb
    refine ⟨hyn, d, r, h1, h2, h3, k, l, .inl hk, by rw [List.length_map]; exact hl', Ne.symm hne, ?_, ?_⟩
    · rw [hx, ofR_at hk]
    · rw [getD_some hyt, ofR_at hl']
  · rintro ⟨hyn, d, r, h1, h2, h3, k, l, hk, hl', hne, hx, hy⟩
    have hlen : (ofR (tie n R) r).length = r.steps.length := by unfold ofR; rw [List.length_map, List.length_map]
    rw [List.length_map] at hl'
    have hk' : k < r.steps.length := by omega
    refine ⟨d, r, h1, h2, h3, k, by omega, by rw [hx, ofR_at hk'], l, by omega, Ne.symm hne, ?_⟩
    refine (bwC_bit _ _ _ _).2 ⟨hyn, ?_⟩
    rw [ofR_at hl', ← hy]
    exact tie_at hyn
theorem sets_foe {n : Nat} {R : List Rl} {G : Nat → Nat} (h : Sets n (fun _ => 0) G (foesP (tie n R) R R.length)) : ∀ x, x < n → G x = foe n R x := fun x hx => by
  refine Nat.eq_of_testBit_eq fun y => ?_
  rw [Bool.eq_iff_iff, h.1 x y hx, foe_bits]
  constructor
  · rintro (h | h)
    · rw [Nat.zero_testBit] at h; cases h
    · exact h
  · exact fun h => .inr h
set_option maxRecDepth 100000 in
set_option maxHeartbeats 4000000 in
theorem rFoes (R : List Rl) (v : Value) (w : World) (hr : RowR w v R) (hR : R.length ≤ 1000) (hm : ∀ r ∈ R, r.steps.length ≤ 1000) (n : Nat) (hg : rgt (n : Int) R = true) :
    Calls Try.prog 13 #[.int .i64 (n : Int), v] w fun e w' => ∃ g, e = .returned (.slice (some ⟨g, 0, none⟩) n n) ∧ Hid (RowU w' g n (foe n R)) ∧ Hid (Below w.heap.size w w') := by
  obtain ⟨i1, hj, hy0, hy1, hy2⟩ := info_parts infoU
  have KT := hide' (rTies R v w hr hR n hg)
  obtain ⟨n', hn', hn12, hck⟩ := rgt_nat hg
  have : n' = n := by omega
  subst this
  obtain ⟨oa, cap, rfl, hcap, hc⟩ := hr
  have hc' := hide' hc
  have hat : Hid (∀ c, c < R.length → ∃ r, R[c]? = some r) := fun c hc => ⟨_, List.getElem?_eq_getElem hc⟩
  have hst : Hid (∀ (c : Nat) (r : Rl), R[c]? = some r → ∃ T : List Nat, r.steps = ints T ∧ r.steps.map Int.toNat = T ∧ (∀ t ∈ T, t < n') ∧ T.length = r.steps.length ∧ r.steps.length ≤ 1000) := fun c r h => by
    obtain ⟨T, h1, h2, h3, _, h5⟩ := chk_nat (hck r (List.mem_of_getElem? h))
    exact ⟨T, h1, h2, h3, h5, hm r (List.mem_of_getElem? h)⟩
  have hend : Hid (∀ (W : World) (g : Nat) G, W.ownsRow g 48 1 (.slice (some ⟨g, 0, none⟩) n' n') n' (cellsW G n') → Sets n' (fun _ => 0) G (foesP (tie n' R) R R.length) → RowU W g n' (foe n' R)) := fun W g G h1 h2 s hs => by
    rw [← sets_foe h2 s hs]
    exact RowU.of_own h1 s hs
  have htl : (tie n' R).length = n' := tieC_len _ _ _
  have KF : Hid (∀ (W : World) (gw gt p q : Nat) (F : Nat → Nat), W.ownsRow gw 48 1 (.slice (some ⟨gw, 0, none⟩) n' n') n' (cellsW F n') → gt < gw → RowI W (.slice (some ⟨gt, 0, none⟩) n' n') (ints (tie n' R)) → p < n' → q < n' → (∀ x, x < n' → F x < 2 ^ n') → Calls Try.prog 29 #[.slice (some ⟨gw, 0, none⟩) n' n', .slice (some ⟨gt, 0, none⟩) n' n', .int .i64 (p : Int), .int .i64 (q : Int)] W fun e w' => e = .returned (.tuple #[]) ∧ (∃ G, Hid (w'.ownsRow gw 48 1 (.slice (some ⟨gw, 0, none⟩) n' n') n' (cellsW G n')) ∧ Hid (Sets n' F G (foeP (tie n' R) p q n' 0))) ∧ Hid (Below gw W w')) := fun W gw gt p q F h1 h2 h3 hp hq hF => by
    refine rFoe gw n' p q F (tie n' R) (some ⟨gt, 0, none⟩) n' W h1 (fun i x hx => ?_) htl hn12 hp hq hF
    obtain ⟨_, _, e, _, hcc⟩ := h3
    rw [ints_len, htl] at e
    cases e
    obtain ⟨g, o, e1, e2⟩ := hcc i x (ints_at hx)
    cases e1
    exact ⟨gt, 0, rfl, h2, e2⟩
  clear hc hcap hck hg hm
  have hzero : Hid (Sets n' (fun _ => 0) (fun _ => 0) (foesP (tie n' R) R 0)) := Sets.refl (fun x _ => Nat.two_pow_pos n') (fun x y h => by obtain ⟨d, r, h, _⟩ := h; omega)
  generalize tie n' R = t at *
  go_enter Try.func13, Try.ntmps13
  go_wp2_with fail
  refine KT.out.mono ?_
  rintro e w1 ⟨gt, rfl, hrt, hb1⟩
  clear KT
  have hgt : 0 < n' → gt < w1.heap.size := fun h0 => by
    obtain ⟨_, _, e, _, hcc⟩ := hrt.out
    obtain ⟨x, hx⟩ : ∃ x, t[0]? = some x := ⟨_, List.getElem?_eq_getElem (by omega)⟩
    obtain ⟨g, o, e1, e2⟩ := hcc 0 x (ints_at hx)
    rw [ints_len, htl] at e
    cases e
    cases e1
    exact cell_lt e2
  have hgt' := hide' hgt
  clear hgt htl
  go_wp2_with (at_make; refine wpList_make_full _ rfl _ _ 31 rfl w1.heap.size 48 i1 (.int .u64 0) 1 Try.underlying31 hj hy0 hy1 .i64 .i64 _ _ n' rfl rfl rfl rfl (by rw [hy2]; omega) (by unfold maxLen; omega) (by simp) ?_; intro w2 hrow hgrow)
  have hr0 : Hid (w2.ownsRow w1.heap.size 48 1 (.slice (some ⟨w1.heap.size, 0, none⟩) n' n') n' (cellsW (fun _ => 0) n')) := by
    have h := hrow
    rw [show (Value.int .u64 0).cells = #[.int .u64 0] from rfl, toList_madeCells_one, Nat.mul_one, cellsW_zero] at h
    exact h
  have hB0 : Hid (Below w1.heap.size w1 w2) := (Below.refl _ w1).grown hgrow (Nat.le_refl _) (fun j ej => by cases ej)
  clear hrow hgrow
  go_wp2
  go_loopw [7, 8, 9, 10] (fun k _ _ _ wr => ∃ (c : Nat) (G : Nat → Nat), c ≤ R.length ∧ k = .int .i64 c ∧ Hid (wr.ownsRow w1.heap.size 48 1 (.slice (some ⟨w1.heap.size, 0, none⟩) n' n') n' (cellsW G n')) ∧ Hid (Sets n' (fun _ => 0) G (foesP t R c)) ∧ Hid (Below w1.heap.size w1 wr)) (fun k _ _ _ _ => ((R.length : Int) - intOf k).toNat)
  case atStart => exact ⟨0, _, Nat.zero_le _, rfl, hr0, hzero, hB0⟩
  case round =>
    clear hr0 hB0 hzero
    obtain ⟨c, G, hcl, rfl, hO, hG, hB⟩ := hrel
    by_cases hlt : c < R.length
    · obtain ⟨r, hx⟩ := hat.out c hlt
      obtain ⟨g, o, sv, rfl, c1', c2', c3', hs⟩ := hc'.out c r hx
      have hBw := hide' (hb1.out.trans (hB.out.mono hb1.out.size))
      have c1 := (hBw.out.cell (p := ⟨g, o + c * 3, none⟩) (cell_lt c1')).trans c1'
      have c3 := (hBw.out.cell (p := ⟨g, o + c * 3 + 2, none⟩) (cell_lt c3')).trans c3'
      obtain ⟨os, cs, rfl⟩ := hs.shape
      obtain ⟨T, hT, hT2, hTlt, hTl, hT1000⟩ := hst.out c r hx
      by_cases hk : r.kind = 1
      · have hcS : Hid (∀ i x : Nat, T[i]? = some x → ∃ g' o', os = some ⟨g', o', none⟩ ∧ g' < w1.heap.size ∧ ∀ W, Below w1.heap.size w1 W → W.cell? ⟨g', o' + i, none⟩ = some (.int .i64 (x : Int))) := fun i x hxi => by
          obtain ⟨_, _, e, _, hcc⟩ := hs
          rw [hT] at hcc
          cases e
          obtain ⟨g', o', e1, e2⟩ := hcc i x (ints_at hxi)
          have := cell_lt e2
          have h1 : g' < w1.heap.size := Nat.lt_of_lt_of_le this hb1.out.size
          exact ⟨g', o', e1, h1, fun W hW => (hW.cell (p := ⟨g', o' + i, none⟩) h1).trans ((hb1.out.cell (p := ⟨g', o' + i, none⟩) this).trans e2)⟩
        have hatT : Hid (∀ i, i < T.length → ∃ x, T[i]? = some x ∧ x < n') := fun i hi => ⟨_, List.getElem?_eq_getElem hi, hTlt _ (List.getElem_mem _)⟩
        have hn1 : Hid (∀ G, Sets n' (fun _ => 0) G (midP t R c T T.length 0) → Sets n' (fun _ => 0) G (foesP t R (c + 1))) := fun G h => h.same fun x y _ _ => by
          have := foes_next (t := t) hx hk x y
          rw [hT2, ← hTl] at this
          exact this
        have hn2 : Hid (∀ G a, Sets n' (fun _ => 0) G (midP t R c T a T.length) → Sets n' (fun _ => 0) G (midP t R c T (a + 1) 0)) := fun G a h => h.same fun x y _ _ => mid_over T x y
        have hn3 : Hid (∀ G a, Sets n' (fun _ => 0) G (midP t R c T a a) → Sets n' (fun _ => 0) G (midP t R c T a (a + 1))) := fun G a h => h.same fun x y _ _ => mid_same T x y
        have hn4 : Hid (∀ F G a b p q, T[a]? = some p → T[b]? = some q → a ≠ b → Sets n' (fun _ => 0) F (midP t R c T a b) → Sets n' F G (foeP t p q n' 0) → Sets n' (fun _ => 0) G (midP t R c T a (b + 1))) := fun F G a b p q ha hb hab h1 h2 => h1.trans h2 fun x y hx' _ => by
          have := mid_pair (n := n') (t := t) (R := R) (c := c) T hab (List.getElem?_eq_some_iff.1 hb).1 x y hx'
          rw [getD_some ha, getD_some hb] at this
          exact this
        have hG0 : Hid (Sets n' (fun _ => 0) G (midP t R c T 0 0)) := hG.out.same fun x y _ _ => mid_start T x y
        rw [hk] at c1
        rw [← hTl] at c3
        have hTn : T.length ≤ 1000 := by omega
        have c13 : Hid (∀ W, Below w1.heap.size w1 W → W.cell? ⟨g, o + c * 3, none⟩ = some (.int .i64 1)) := fun W hW => by
          have h1 := hb1.out.trans (hW.mono hb1.out.size)
          rw [← hk]
          exact (h1.cell (p := ⟨g, o + c * 3, none⟩) (cell_lt c1')).trans c1'
        clear hc' hat hst hend c1' c2' c3' hx hs hG hk hT hT2 hTlt hTl hBw hT1000
        generalize midP t R c T = MP at *
        go_wp2
        go_loopw [9, 10] (fun k _ wr => ∃ (a : Nat) (G : Nat → Nat), a ≤ T.length ∧ k = .int .i64 a ∧ Hid (wr.ownsRow w1.heap.size 48 1 (.slice (some ⟨w1.heap.size, 0, none⟩) n' n') n' (cellsW G n')) ∧ Hid (Sets n' (fun _ => 0) G (MP a 0)) ∧ Hid (Below w1.heap.size w1 wr)) (fun k _ _ => ((T.length : Int) - intOf k).toNat)
        case atStart => exact ⟨0, G, Nat.zero_le _, rfl, hO, hG0, hB⟩
        case round =>
          clear hO hG0 hB c1 c3
          obtain ⟨a, G, hal, rfl, hO, hG, hB⟩ := hrel
          have c1 := c13.out _ hB.out
          by_cases hlta : a < T.length
          · have hlta' : (a : Int) < (T.length : Int) := by omega
            clear hn1
            go_wp2
            go_loopw [10] (fun k wr => ∃ (b : Nat) (G : Nat → Nat), b ≤ T.length ∧ k = .int .i64 b ∧ Hid (wr.ownsRow w1.heap.size 48 1 (.slice (some ⟨w1.heap.size, 0, none⟩) n' n') n' (cellsW G n')) ∧ Hid (Sets n' (fun _ => 0) G (MP a b)) ∧ Hid (Below w1.heap.size w1 wr)) (fun k _ => ((T.length : Int) - intOf k).toNat)
            case atStart => exact ⟨0, G, Nat.zero_le _, rfl, hO, hG, hB⟩
            case round =>
              clear hO hG hB c1 c13
              obtain ⟨b, G, hbl, rfl, hO, hG, hB⟩ := hrel
              by_cases hltb : b < T.length
              · by_cases hab : a = b
                · subst hab
                  have hG' := hide' (hn3.out _ _ hG.out)
                  clear hn2 hn3 hn4 hcS hatT KF hG
                  go_wp2
                  exact ⟨⟨a + 1, G, by omega, by go_num, hO, hG', hB⟩, by simp [intOf]; omega⟩
                · obtain ⟨p, hp, hpn⟩ := hatT.out a hlta
                  obtain ⟨q, hq, hqn⟩ := hatT.out b hltb
                  obtain ⟨g', o', rfl, hgl, hcp⟩ := hcS.out a p hp
                  obtain ⟨_, _, e, _, hcq⟩ := hcS.out b q hq
                  cases e
                  have cp := hcp wr hB.out
                  have cq := hcq wr hB.out
                  have hab' : ((a : Int) != (b : Int)) = true := by rw [bne_iff_ne]; omega
                  have hF := hide' (KF.out wr.drew w1.heap.size gt p q G hO.out.drew (hgt'.out (by omega)) (hrt.out.below hB.out.drew (Nat.le_refl _)) hpn hqn hG.out.2)
                  have hn4' : Hid (∀ G', Sets n' G G' (foeP t p q n' 0) → Sets n' (fun _ => 0) G' (MP a (b + 1))) := fun G' h => hn4.out G G' a b p q hp hq hab hG.out h
                  have hBd := hide' hB.out.drew
                  clear hn2 hn3 hn4 hcS hatT KF hG hcp hcq hp hq hab hO hB
                  go_wp2
                  go_region_with (go_at_call 29; refine hF.out.mono ?_; rintro e w3 ⟨rfl, ⟨G', hO3, hG3⟩, hb3⟩)
                  all_goals (go_wp2; exact ⟨⟨b + 1, G', by omega, by go_num, hO3, hn4'.out _ hG3.out, hBd.out.trans hb3.out⟩, by simp [intOf]; omega⟩)
              · obtain rfl : b = T.length := by omega
                have hG' := hide' (hn2.out _ _ hG.out)
                clear hn2 hn3 hn4 hcS hatT KF hG
                go_wp2
                exact ⟨⟨a + 1, G, by omega, by go_num, hO, hG', hB⟩, by simp [intOf]; omega⟩
          · obtain rfl : a = T.length := by omega
            have hG' := hide' (hn1.out _ hG.out)
            clear hn1 hn2 hn3 hn4 hcS hatT KF hG
            go_wp2
            exact ⟨⟨c + 1, G, by omega, by go_num, hO, hG', hB⟩, by simp [intOf]; omega⟩
      · have hd : (r.kind == 1) = false := by simpa using hk
        have hG' := hide' (hG.out.same fun x y _ _ => foes_skip hx hk x y)
        clear hc' hat hst hend KF c1' c2' c3' hx hs hG hk hT hT2 hTlt hTl hBw
        generalize r.kind = kd at *
        generalize r.steps.length = q at *
        by_cases hq : 0 < q
        · have hq' : (0 : Int) < (q : Int) := by omega
          go_wp2
          refine wp_loop_rounds 1 ?_
          rw [rounds_succ]
          go_wp2
          exact ⟨⟨c + 1, G, by omega, by go_num, hO, hG', hB⟩, by simp [intOf]; omega⟩
        · obtain rfl : q = 0 := by omega
          go_wp2
          refine wp_loop_rounds 1 ?_
          rw [rounds_succ]
          go_wp2
          exact ⟨⟨c + 1, G, by omega, by go_num, hO, hG', hB⟩, by simp [intOf]; omega⟩
    · obtain rfl : c = R.length := by omega
      have hF := hide' (hend.out _ _ _ hO.out hG.out)
      clear hc' hat hst hend KF hO hG
      go_wp2
      go_ret
      exact ⟨_, rfl, hF, hb1.out.trans (hB.out.mono hb1.out.size)⟩
end Go.Proofs.Ytcdlodmoiobpbaa
